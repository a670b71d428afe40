package trie

import (
	"graphdb/api"
	"slices"
)

// Root returns the cursor without open levels.
func Root() api.Cursor {
	return api.Cursor{}
}

// Key returns the key at which c is.
func Key(t api.Trie, c api.Cursor) (int, bool) {
	if !hasKey(t, c) {
		return 0, false
	}
	k := len(c.At) - 1
	return t.Levels[k].Keys[c.At[k]], true
}

// Down opens the next level at its first key.
func Down(t api.Trie, c api.Cursor) (api.Cursor, bool) {
	if !isPosition(t, c) || len(c.At) == len(t.Levels) {
		return api.Cursor{}, false
	}
	from, end := below(t, c.At)
	if from == end {
		return api.Cursor{}, false
	}
	return api.Cursor{At: append(slices.Clone(c.At), from), End: append(slices.Clone(c.End), end)}, true
}

// Up closes the deepest open level.
func Up(t api.Trie, c api.Cursor) (api.Cursor, bool) {
	if !hasKey(t, c) {
		return api.Cursor{}, false
	}
	k := len(c.At) - 1
	return api.Cursor{At: slices.Clone(c.At[:k]), End: slices.Clone(c.End[:k])}, true
}

// Next moves to the next sibling.
func Next(t api.Trie, c api.Cursor) (api.Cursor, bool) {
	if !hasKey(t, c) {
		return api.Cursor{}, false
	}
	return ahead(c, 1)
}

// Seek moves to the first sibling from the current one on whose key is at least x.
func Seek(t api.Trie, c api.Cursor, x int) (api.Cursor, bool) {
	if !hasKey(t, c) {
		return api.Cursor{}, false
	}
	k := len(c.At) - 1
	n, _ := slices.BinarySearch(t.Levels[k].Keys[c.At[k]:c.End[k]], x)
	return ahead(c, n)
}

// isPosition reports whether c is valid for t.
func isPosition(t api.Trie, c api.Cursor) bool {
	if !Valid(t) || len(c.At) != len(c.End) || len(c.At) > len(t.Levels) {
		return false
	}
	for k, at := range c.At {
		from, end := below(t, c.At[:k])
		if at < from || at >= end || c.End[k] != end {
			return false
		}
	}
	return true
}

// hasKey reports whether c is valid for t and not the root.
func hasKey(t api.Trie, c api.Cursor) bool {
	return len(c.At) > 0 && isPosition(t, c)
}

// ahead returns c, which is not the root, moved by n siblings, and false if there are not so many.
func ahead(c api.Cursor, n int) (api.Cursor, bool) {
	k := len(c.At) - 1
	if c.At[k]+n == c.End[k] {
		return api.Cursor{}, false
	}
	r := api.Cursor{At: slices.Clone(c.At), End: slices.Clone(c.End)}
	r.At[k] += n
	return r, true
}
