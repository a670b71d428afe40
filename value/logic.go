package value

import (
	"graphdb/api"
)

// Not exchanges No and Yes. All other truth values count as Unknown and stay so.
func Not(a int) int {
	return api.Yes - truth(a)
}

// And returns Yes if a and b are Yes, No if one of them is No, and Unknown otherwise.
func And(a, b int) int {
	return min(truth(a), truth(b))
}

// Or returns Yes if a or b is Yes, No if both are No, and Unknown otherwise.
func Or(a, b int) int {
	return max(truth(a), truth(b))
}

// Truth returns Yes or No for a valid boolean, and Unknown for all other values.
func Truth(v api.Value) int {
	if v.Kind != api.VBool || !Valid(v) {
		return api.Unknown
	}
	return known(v.N == 1)
}

// FromTruth returns true for Yes, false for No, and null for all other truth values.
func FromTruth(t int) api.Value {
	if truth(t) == api.Unknown {
		return Null()
	}
	return Bool(t == api.Yes)
}

// truth returns the truth value for which t counts: Unknown unless it is No or Yes.
func truth(t int) int {
	if t == api.No || t == api.Yes {
		return t
	}
	return api.Unknown
}

// known returns the truth value of b.
func known(b bool) int {
	if b {
		return api.Yes
	}
	return api.No
}
