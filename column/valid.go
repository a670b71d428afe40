package column

import (
	"graphdb/api"
	"slices"
)

// Valid reports whether c is valid.
func Valid(c api.Column) bool {
	if !areIds(c.Nodes) || !areIds(c.To) || !areIds(c.Edge) {
		return false
	}
	// The nodes are increasing and no edge occurs twice, so the order of all entries is that of each row, and no two of them are equal.
	return areIncreasing(c.Nodes) && haveBounds(c) && slices.IsSortedFunc(entries(c), order) && areDistinct(c.Edge)
}

// haveBounds reports whether First divides the entries of c into one row per node, none of which is empty.
func haveBounds(c api.Column) bool {
	last := len(c.First) - 1
	if last < 0 {
		// Only the empty column can do without bounds.
		return len(c.Nodes) == 0 && len(c.To) == 0 && len(c.Edge) == 0
	}
	return last == len(c.Nodes) && c.First[0] == 0 && areIncreasing(c.First) && c.First[last] == len(c.To) && len(c.To) == len(c.Edge)
}

// isId reports whether id can be the id of a node or edge.
func isId(id int) bool {
	return 1 <= id && id <= api.MaxId
}

// areIds reports whether all elements of l can be ids.
func areIds(l []int) bool {
	for _, id := range l {
		if !isId(id) {
			return false
		}
	}
	return true
}

// areIncreasing reports whether each element of l is greater than the one before it.
func areIncreasing(l []int) bool {
	for i := 1; i < len(l); i++ {
		if l[i-1] >= l[i] {
			return false
		}
	}
	return true
}

// areDistinct reports whether no element of l occurs twice.
func areDistinct(l []int) bool {
	return areIncreasing(slices.Sorted(slices.Values(l)))
}
