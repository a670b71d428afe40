package value

import (
	"cmp"
	"graphdb/api"
	"graphdb/frac"
	"slices"
)

// The classes of valid values, in the order in which Order places them.
const (
	classNull = iota
	classBool
	classNumber
	classStr
	classNode
	classEdge
	classList
	classPath
)

// Equal returns whether a and b are equal: Unknown if one of them is null or not valid, or if it depends on a null inside them.
func Equal(a, b api.Value) int {
	if !Valid(a) || !Valid(b) {
		return api.Unknown
	}
	return equalValid(a, b)
}

// Less returns whether a is less than b: Unknown unless both are valid, and both numbers, both strings or both booleans.
func Less(a, b api.Value) int {
	if !Valid(a) || !Valid(b) || class(a) != class(b) {
		return api.Unknown
	}
	switch class(a) {
	case classBool, classNumber, classStr:
		return known(orderValid(a, b) < 0)
	}
	return api.Unknown
}

// Order compares a and b in a total order of all values, valid or not. It returns -1, 0 or 1.
func Order(a, b api.Value) int {
	validA, validB := Valid(a), Valid(b)
	if validA && validB {
		return orderValid(a, b)
	}
	if validA {
		return -1
	}
	if validB {
		return 1
	}
	return orderInvalid(a, b)
}

// OrderRows compares a and b lexicographically by Order, a proper prefix first.
func OrderRows(a, b api.Row) int {
	return slices.CompareFunc(a, b, Order)
}

// SortRows returns the rows of l, sorted by OrderRows.
func SortRows(l []api.Row) []api.Row {
	sorted := slices.Clone(l)
	slices.SortFunc(sorted, OrderRows)
	return sorted
}

// SameBag reports whether a and b contain the same rows with the same multiplicities.
func SameBag(a, b []api.Row) bool {
	// Only equal rows compare as 0, so a bag has a single sorted list.
	return slices.CompareFunc(SortRows(a), SortRows(b), OrderRows) == 0
}

// equalValid is Equal for valid values.
func equalValid(a, b api.Value) int {
	if a.Kind == api.VNull || b.Kind == api.VNull {
		return api.Unknown
	}
	// Numbers of different kinds belong to one class, but a fraction in lowest terms with a denominator above 1 is never an integer, so different kinds are unequal for them, too.
	if a.Kind != b.Kind {
		return api.No
	}
	if a.Kind == api.VList {
		return equalLists(a.L, b.L)
	}
	// Nothing but a list can have a null inside, not even a path, so Order decides.
	return known(orderValid(a, b) == 0)
}

// equalLists is Equal for the elements of valid lists: No if one pair is No, else Unknown if one is.
func equalLists(a, b []api.Value) int {
	if len(a) != len(b) {
		return api.No
	}
	all := api.Yes
	for i := range a {
		all = And(all, equalValid(a[i], b[i]))
	}
	return all
}

// orderValid is Order for valid values.
func orderValid(a, b api.Value) int {
	if c := cmp.Compare(class(a), class(b)); c != 0 {
		return c
	}
	switch class(a) {
	case classNumber:
		return frac.Cmp(fraction(a), fraction(b))
	case classStr:
		return cmp.Compare(a.S, b.S)
	case classList, classPath:
		return slices.CompareFunc(a.L, b.L, orderValid)
	}
	return cmp.Compare(a.N, b.N)
}

// orderInvalid is Order for two values that are not valid, whose elements may be valid or not.
func orderInvalid(a, b api.Value) int {
	c := cmp.Or(cmp.Compare(a.Kind, b.Kind), cmp.Compare(a.N, b.N), cmp.Compare(a.D, b.D), cmp.Compare(a.S, b.S))
	if c != 0 {
		return c
	}
	return slices.CompareFunc(a.L, b.L, Order)
}

// class returns the class of a valid value.
func class(v api.Value) int {
	switch v.Kind {
	case api.VBool:
		return classBool
	case api.VInt, api.VRat:
		return classNumber
	case api.VStr:
		return classStr
	case api.VNode:
		return classNode
	case api.VEdge:
		return classEdge
	case api.VList:
		return classList
	case api.VPath:
		return classPath
	}
	return classNull
}
