package value_test

import (
	"graphdb/api"
	"graphdb/value"
	"slices"
	"testing"
)

// others are truth values that count as Unknown.
var others = []int{api.Unknown, 3, 4, -1, -2, 1 << 32, 1<<32 + 2, least, greatest}

// truths returns the three truth values and others, with what each counts as.
func truths() map[int]int {
	l := map[int]int{api.No: api.No, api.Yes: api.Yes}
	for _, t := range others {
		l[t] = api.Unknown
	}
	return l
}

// P4.3
func TestTruthTables(t *testing.T) {
	const n, u, y = api.No, api.Unknown, api.Yes
	not := [3]int{n: y, u: u, y: n}
	and := [3][3]int{n: {n, n, n}, u: {n, u, u}, y: {n, u, y}}
	or := [3][3]int{n: {n, u, y}, u: {u, u, y}, y: {y, y, y}}
	for a, countsA := range truths() {
		if r := value.Not(a); r != not[countsA] {
			t.Errorf("Not(%d) = %d", a, r)
		}
		for b, countsB := range truths() {
			if r := value.And(a, b); r != and[countsA][countsB] {
				t.Errorf("And(%d, %d) = %d", a, b, r)
			}
			if r := value.Or(a, b); r != or[countsA][countsB] {
				t.Errorf("Or(%d, %d) = %d", a, b, r)
			}
		}
	}
}

// P4.3
func TestTruth(t *testing.T) {
	for _, v := range slices.Concat(validOrdered(), invalidOrdered()) {
		want := api.Unknown
		if identical(v, boolean(true)) {
			want = api.Yes
		}
		if identical(v, boolean(false)) {
			want = api.No
		}
		if r := value.Truth(v); r != want {
			t.Errorf("Truth(%v) = %d; want %d", v, r, want)
		}
	}
	for _, b := range []bool{false, true} {
		want := map[bool]int{false: api.No, true: api.Yes}[b]
		if r := value.Truth(with(boolean(b), []api.Value{})); r != want {
			t.Errorf("Truth of %v with an empty L is %d", b, r)
		}
		// Not a valid boolean.
		for _, v := range setFields(boolean(b)) {
			if r := value.Truth(v); r != api.Unknown {
				t.Errorf("Truth(%v) = %d", v, r)
			}
		}
	}
}

// P4.3
func TestFromTruth(t *testing.T) {
	if v := value.FromTruth(api.Yes); !identical(v, boolean(true)) {
		t.Errorf("FromTruth(Yes) = %v", v)
	}
	if v := value.FromTruth(api.No); !identical(v, boolean(false)) {
		t.Errorf("FromTruth(No) = %v", v)
	}
	for _, n := range others {
		if v := value.FromTruth(n); !identical(v, null) {
			t.Errorf("FromTruth(%d) = %v", n, v)
		}
	}
	for n, counts := range truths() {
		if r := value.Truth(value.FromTruth(n)); r != counts {
			t.Errorf("Truth(FromTruth(%d)) = %d", n, r)
		}
	}
}
