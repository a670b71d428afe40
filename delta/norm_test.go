package delta_test

import (
	"fmt"
	"graphdb/api"
	"graphdb/change"
	"graphdb/delta"
	"graphdb/graph"
	"slices"
	"testing"
)

// P11.1: lists in another order than a script has, with changes that are made twice or come to nothing.
func TestNorm(t *testing.T) {
	for _, c := range []struct{ l, want string }{
		{"", ""},
		{"+node 5", "+node 5"},
		{"-node 2", "-node 2"},
		{"+node 30, +node 5, +node 7", "+node 5, +node 7, +node 30"},
		{"+label 2 X, +label 2 C", "+label 2 C, +label 2 X"},
		{"set 2 z 1, set 2 a 1", "set 2 a 1, set 2 z 1"},
		{"eset 4 z 1, eset 4 a 1", "eset 4 a 1, eset 4 z 1"},
		{"eset 4 z 1, +edge 5 1 1 T, +edge 2 1 1 T, -edge 12", "-edge 12, +edge 2 1 1 T, +edge 5 1 1 T, eset 4 z 1"},
		{"+label 1 C, -label 1 A, set 1 d 1, set 1 a null", "-label 1 A, set 1 a null, +label 1 C, set 1 d 1"},
		{"+node 5, +edge 1 5 5 T, set 5 k 1, +label 5 A, -edge 30, -node 11", "-edge 30, -node 11, +node 5, +label 5 A, set 5 k 1, +edge 1 5 5 T"},
		{"set 2 k 1, set 2 k 2, set 2 k 3", "set 2 k 3"},
		{"set 1 a 2, set 1 a null", "set 1 a null"},
		{"set 1 a null, set 1 a 2", "set 1 a 2"},
		{"set 1 a true", "set 1 a true"},
		// What changes nothing.
		{"set 1 a 1", ""},
		{"set 1 x null", ""},
		{"eset 3 w 'x'", ""},
		{"eset 3 x null", ""},
		// An edge that is removed and added again: the same one, with other properties, and another one.
		{"-edge 3, +edge 3 1 10 T", "eset 3 a null, eset 3 w null"},
		{"-edge 3, +edge 3 1 10 T, eset 3 w 'x', eset 3 b 1", "eset 3 a null, eset 3 b 1"},
		{"-edge 3, +edge 3 10 1 T, eset 3 w 'x'", "-edge 3, +edge 3 10 1 T, eset 3 w 'x'"},
		{"-edge 3, +edge 3 1 10 U", "-edge 3, +edge 3 1 10 U"},
		// A node that is removed and added again.
		{"-node 20, +node 20", "-label 20 C, set 20 z null"},
		{"-node 20, +node 20, +label 20 D, set 20 z ''", "-label 20 C, +label 20 D"},
		{"-edge 30, -node 11, +node 11, +label 11 A, +edge 30 11 11 T", "set 11 a null"},
		// With everything that was there before.
		{"-edge 30, -node 11, +node 11, +label 11 A, set 11 a 1, +edge 30 11 11 T", ""},
		{"-edge 3, +edge 3 1 10 T, eset 3 w 'x', eset 3 a 1", ""},
		{"-node 2, +node 2, +label 2 B", ""},
	} {
		normIs(t, sample(), changes(c.l), c.want, api.OK)
		joinIs(t, sample(), changes(c.l), nil, c.want, api.OK)
		joinIs(t, sample(), nil, changes(c.l), c.want, api.OK)
	}
}

// P11.1, P11.3: changes that undo each other leave nothing: an element that comes and goes, and whatever comes before its inverses.
func TestNormOfUndoneChanges(t *testing.T) {
	for _, l := range []string{
		"+node 5, -node 5",
		"+node 5, +label 5 A, set 5 k 1, +edge 1 5 1 T, -edge 1, -node 5",
		"+edge 5 1 1 T, -edge 5",
		"+edge 5 1 1 T, eset 5 k 1, -edge 5",
		"+label 2 A, -label 2 A",
		"-label 2 B, +label 2 B",
		"set 2 k 1, set 2 k null",
		"set 1 a null, set 1 a 1",
		"set 1 a true, set 1 a '1', set 1 a 1",
		"eset 4 k 1, eset 4 k null",
		"eset 3 a null, eset 3 a 1",
		"+node 5, -node 5, +node 5, -node 5",
		"+node 1000000, -node 1000000, +edge 1000000 1 1 T, -edge 1000000",
	} {
		normIs(t, sample(), changes(l), "", api.OK)
	}
	for _, l := range []string{"+node 5", "-node 20", "-edge 3, -edge 4, -edge 12, -node 1, -node 10", "+label 2 A, -label 2 B, set 2 k 1, eset 3 a 2", "-edge 3, +edge 3 10 1 V, eset 3 k 1"} {
		back, _, err := change.Invert(sample(), changes(l))
		if err != api.OK {
			t.Fatalf("Invert(sample, %s): %d", l, err)
		}
		normIs(t, sample(), slices.Concat(changes(l), back), "", api.OK)
		joinIs(t, sample(), changes(l), back, "", api.OK)
	}
}

// wrong are changes that can't be made in the sample, nor in it as the changes of good leave it.
var wrong = []struct {
	c   api.Change
	err api.Errno
}{
	{api.Change{}, api.ErrArg},
	{api.Change{Op: 9, Id: 1}, api.ErrArg},
	{api.Change{Op: -1, Id: 1}, api.ErrArg},
	{api.Change{Op: api.AddNode}, api.ErrArg},
	{api.Change{Op: api.AddNode, Id: 1000001}, api.ErrArg},
	{api.Change{Op: api.DelEdge, Id: 3, Name: "T"}, api.ErrArg},
	{api.Change{Op: api.AddLabel, Id: 1, Name: "_"}, api.ErrName},
	{api.Change{Op: api.SetNode, Id: 1}, api.ErrName},
	{api.Change{Op: api.SetNode, Id: 1, Name: "k", V: api.Value{Kind: api.VRat, N: 1, D: 2}}, api.ErrType},
	{changes("+node 1")[0], api.ErrTwice},
	{changes("+label 1 B")[0], api.ErrTwice},
	{changes("+edge 3 1 1 T")[0], api.ErrTwice},
	{changes("-node 1")[0], api.ErrUsed},
	{changes("-node 9")[0], api.ErrNode},
	{changes("set 9 k null")[0], api.ErrNode},
	{changes("+edge 9 1 9 T")[0], api.ErrNode},
	{changes("-edge 9")[0], api.ErrEdge},
	{changes("eset 9 k 1")[0], api.ErrEdge},
	{changes("-label 1 Z")[0], api.ErrNone},
}

// good returns changes that can be made in the sample.
func good() []api.Change {
	return changes("+node 5, +label 5 A, -edge 4, set 1 a 2")
}

// P11.1: the first, a middle or the last change can't be made: its error and no changes. The first one that fails decides, in either list of Join.
func TestNormOfChangesThatFail(t *testing.T) {
	for _, w := range wrong {
		for at := range len(good()) + 1 {
			l := slices.Insert(good(), at, w.c)
			normIs(t, sample(), l, "", w.err)
			// The list is cut in two at each place.
			for cut := range len(l) + 1 {
				joinIs(t, sample(), l[:cut], l[cut:], "", w.err)
			}
			for _, second := range wrong {
				normIs(t, sample(), append(slices.Clone(l), second.c), "", w.err)
				joinIs(t, sample(), l, []api.Change{second.c}, "", w.err)
			}
		}
		normIs(t, sample(), []api.Change{w.c}, "", w.err)
		joinIs(t, sample(), []api.Change{w.c}, nil, "", w.err)
		joinIs(t, sample(), nil, []api.Change{w.c}, "", w.err)
	}
}

// P11.1: the error of a graph that is not valid comes before that of a change, also where there are no changes.
func TestNormOfInvalidGraphs(t *testing.T) {
	for err, graphs := range invalid() {
		for _, g := range graphs {
			for _, l := range [][]api.Change{nil, changes("+node 1000000"), {{}}, changes("-edge 9"), changes("set 1 a 1")} {
				normIs(t, g, l, "", err)
				joinIs(t, g, l, nil, "", err)
				joinIs(t, g, nil, l, "", err)
				joinIs(t, g, l, l, "", err)
			}
		}
	}
}

// P11.1, P11.3: the second list of Join is made in what the first one leaves.
func TestJoin(t *testing.T) {
	for _, c := range []struct {
		l, m, want string
		err        api.Errno
	}{
		{"", "", "", api.OK},
		{"+label 2 X", "+label 2 C", "+label 2 C, +label 2 X", api.OK},
		{"+node 5", "+label 5 A", "+node 5, +label 5 A", api.OK},
		{"+node 5", "-node 5", "", api.OK},
		{"-node 2", "+node 2", "-label 2 B", api.OK},
		{"+node 5", "+edge 1 5 5 T", "+node 5, +edge 1 5 5 T", api.OK},
		{"+node 5, +edge 1 5 5 T", "eset 1 k 1, -edge 30", "-edge 30, +node 5, +edge 1 5 5 T, eset 1 k 1", api.OK},
		{"set 2 k 1", "set 2 k 2", "set 2 k 2", api.OK},
		{"set 2 k 2", "set 2 k 1", "set 2 k 1", api.OK},
		{"set 1 a 2", "set 1 a 1", "", api.OK},
		{"-edge 3", "+edge 3 1 10 T", "eset 3 a null, eset 3 w null", api.OK},
		{"-edge 3", "+edge 3 10 1 T", "-edge 3, +edge 3 10 1 T", api.OK},
		// The second list can't be made in the sample itself.
		{"-edge 30", "-node 11", "-edge 30, -node 11", api.OK},
		{"-node 20", "+node 20, +label 20 C, set 20 z ''", "", api.OK},
		// It could be, but for the first list.
		{"+node 5", "+node 5", "", api.ErrTwice},
		{"-node 2", "-node 2", "", api.ErrNode},
		{"-node 2", "set 2 k 1", "", api.ErrNode},
		{"-edge 3", "eset 3 k 1", "", api.ErrEdge},
		{"+edge 5 2 2 T", "-node 2", "", api.ErrUsed},
		{"-label 2 B", "-label 2 B", "", api.ErrNone},
		{"+label 2 A", "+label 2 A", "", api.ErrTwice},
		// The lists in a wrong order.
		{"+label 5 A", "+node 5", "", api.ErrNode},
		{"+node 1, +node 5", "-node 9", "", api.ErrTwice},
	} {
		joinIs(t, sample(), changes(c.l), changes(c.m), c.want, c.err)
	}
}

// P11.1: the first list of Join may have room behind its end, and be the beginning of the second one.
func TestJoinOfSharedLists(t *testing.T) {
	all := changes("+node 5, +label 5 A, +node 6, +label 6 A")
	got, err := delta.Join(graph.New(), all[:2], all[2:])
	scriptIs(t, "Join of two parts of a list", got, err, "+node 5, +node 6, +label 5 A, +label 6 A", api.OK)
	got, err = delta.Join(graph.New(), all[:2], all[:2])
	scriptIs(t, "Join of a list with itself", got, err, "", api.ErrTwice)
	got, err = delta.Join(graph.New(), all[:1], all[2:3])
	scriptIs(t, "Join of two parts with one between", got, err, "+node 5, +node 6", api.OK)
	if written(all) != "+node 5, +label 5 A, +node 6, +label 6 A" {
		t.Errorf("the list became %s", written(all))
	}
}

// P11.1: what a graph has room for, in the course of the lists.
func TestNormAtLimits(t *testing.T) {
	g := largest(1, "m")
	for _, c := range []struct {
		l, want string
		err     api.Errno
	}{
		{"", "", api.OK},
		{"+node 5000", "", api.ErrFull},
		{"+edge 5000 1 1 T", "", api.ErrFull},
		{"+label 1 A", "", api.ErrFull},
		{"set 1 k 1", "", api.ErrFull},
		{"eset 1 k 1", "", api.ErrFull},
		{"-edge 4000, +edge 5000 1 1 T", "-edge 4000, +edge 5000 1 1 T", api.OK},
		{"-label 1 m00, +label 1 A", "-label 1 m00, +label 1 A", api.OK},
		{"set 1 m15 null, set 1 k 1", "set 1 m15 null, set 1 k 1", api.OK},
		{"eset 1 m15 null, eset 1 k 1, eset 1 l 1", "", api.ErrFull},
		{"eset 4000 m00 0, eset 4000 m15 0", "eset 4000 m00 0, eset 4000 m15 0", api.OK},
	} {
		got, err := delta.Norm(g, changes(c.l))
		scriptIs(t, fmt.Sprintf("Norm(%s, %s)", brief(g), c.l), got, err, c.want, c.err)
	}
}
