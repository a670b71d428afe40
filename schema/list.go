package schema

import (
	"graphdb/api"
	"slices"
)

// Valid reports whether s is a schema: not too many rules, all of them valid, in increasing order.
func Valid(s []api.Rule) bool {
	if len(s) > api.MaxRules {
		return false
	}
	for i, r := range s {
		if Check(r) != api.OK || i > 0 && Order(s[i-1], r) >= 0 {
			return false
		}
	}
	return true
}

// Add returns the schema with the rules of s and r, or the error for which r can't be added.
func Add(s []api.Rule, r api.Rule) ([]api.Rule, api.Errno) {
	at, found, err := find(s, r)
	switch {
	case err != api.OK:
		return nil, err
	case found:
		return nil, api.ErrTwice
	case len(s) == api.MaxRules:
		return nil, api.ErrFull
	}
	// Insert would write into the memory behind s.
	return slices.Concat(s[:at], []api.Rule{r}, s[at:]), api.OK
}

// Drop returns the schema with the rules of s without r, or the error for which r can't be dropped.
func Drop(s []api.Rule, r api.Rule) ([]api.Rule, api.Errno) {
	at, found, err := find(s, r)
	switch {
	case err != api.OK:
		return nil, err
	case !found:
		return nil, api.ErrNone
	}
	return slices.Concat(s[:at], s[at+1:]), api.OK
}

// find returns the index of r in s and true, or the index where it would be and false. It returns an error if s is not a schema or r is not valid.
func find(s []api.Rule, r api.Rule) (int, bool, api.Errno) {
	if !Valid(s) {
		return 0, false, api.ErrState
	}
	if err := Check(r); err != api.OK {
		return 0, false, err
	}
	at, found := slices.BinarySearchFunc(s, r, Order)
	return at, found, api.OK
}
