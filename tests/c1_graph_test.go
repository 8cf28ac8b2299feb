package tests

import (
	"math"
	"slices"
	"testing"

	"loop.example/graphcode/impl"
)

// brokenGraph is a graph that is not valid, and why.
type brokenGraph struct {
	why string
	g   impl.Graph
}

func brokenGraphs() []brokenGraph {
	return []brokenGraph{
		{"no nodes", graph(0)},
		{"one node more than MaxNodes", chain(impl.MaxNodes + 1)},
		{"Root behind the nodes", graph(1, number(0))},
		{"Root below the nodes", graph(-1, number(0))},
		{"a great Root", graph(math.MaxInt, number(0))},
		{"a kid behind the nodes", graph(0, list(1))},
		{"a kid below the nodes", graph(0, list(-1))},
		{"a great kid", graph(0, list(math.MinInt))},
		{"a key behind the nodes", graph(0, dict(2, 1), number(0))},
		{"a value behind the nodes", graph(0, dict(1, 2), number(0))},
		{"one kid more than MaxKids", graph(0, list(1, 1, 1, 1, 1, 1, 1), number(0))},
		{"a tuple with one kid more than MaxKids", graph(0, tuple(1, 1, 1, 1, 1, 1, 1), number(0))},
		{"a dictionary with one key more", graph(0, dict(1, 1, 2, 1, 3, 1, 4, 1), number(0), number(1), number(2), number(3))},
		{"a kind behind all", graph(0, impl.Node{Kind: impl.NkObj + 1})},
		{"a kind below all", graph(0, impl.Node{Kind: -1})},
		{"a number of MaxInt and 1", graph(0, number(impl.MaxInt+1))},
		{"a number below 0", graph(0, number(-1))},
		{"a number with a kid", graph(0, impl.Node{Kind: impl.NkInt, Kids: []int{1}}, number(0))},
		{"a text of MaxWord and 1", graph(0, text(impl.MaxWord+1))},
		{"a text below 0", graph(0, text(-1))},
		{"a text with a kid", graph(0, impl.Node{Kind: impl.NkText, Kids: []int{1}}, number(0))},
		{"a tuple with a value", graph(0, impl.Node{Kind: impl.NkTuple, Value: 1})},
		{"a list with a value", graph(0, impl.Node{Kind: impl.NkList, Value: 1})},
		{"a list with a value below 0", graph(0, impl.Node{Kind: impl.NkList, Value: -1})},
		{"a dictionary with a value", graph(0, impl.Node{Kind: impl.NkDict, Value: 1})},
		{"a key without a value", graph(0, dict(1), number(0))},
		{"a second key without a value", graph(0, dict(1, 1, 2), number(0), number(1))},
		{"a tuple as a key", graph(0, dict(1, 1), tuple())},
		{"a list as a key", graph(0, dict(1, 1), list())},
		{"an object as a key", graph(0, dict(1, 1), object(0))},
		{"a dictionary as its own key", graph(0, dict(0, 0))},
		{"a second key that is a tuple", graph(0, dict(1, 1, 2, 1), number(0), tuple())},
		{"a key that is set twice", graph(0, dict(1, 1, 1, 1), text(0))},
		{"equal numbers as keys", graph(0, dict(1, 1, 2, 1), number(3), number(3))},
		{"equal texts as keys", graph(0, dict(1, 1, 2, 1, 3, 1), text(3), number(3), text(3))},
		{"an object of MaxClass and 1", graph(0, object(impl.MaxClass+1))},
		{"an object of a class below 0", graph(0, object(-1))},
		{"an object with two states", graph(0, object(0, 1, 1), number(0))},
		{"a tuple of itself", graph(0, tuple(0))},
		{"a tuple of itself and more", graph(0, tuple(1, 0), number(0))},
		{"a tuple of a tuple of it", graph(0, tuple(1), tuple(0))},
		{"a tuple over two tuples back to it", graph(0, tuple(3, 1), tuple(2), tuple(3, 0), text(0))},
		{"a tuple of itself that is not reached", graph(0, number(0), tuple(1))},
		{"a tuple of itself below a list", graph(0, list(1), tuple(1))},
		{"tuples that have each other, beside a list on the cycle", graph(0, tuple(1), tuple(2, 0), list(0))},
		{"a number too great that is not reached", graph(0, number(0), number(1000))},
		{"a kid too great of a node that is not reached", graph(0, number(0), list(2))},
	}
}

func TestInvalidGraphs(t *testing.T) {
	for _, c := range brokenGraphs() {
		if impl.ValidGraph(c.g) {
			t.Errorf("%s: ValidGraph(%v) = true", c.why, c.g)
		}
	}
}

func TestValidGraphs(t *testing.T) {
	wideGraphs(func(g impl.Graph) {
		if !impl.ValidGraph(g) {
			t.Errorf("ValidGraph(%v) = false", g)
		}
	})
	smallGraphs(func(g impl.Graph) {
		if impl.ValidGraph(g) != wantValid(g) {
			t.Errorf("ValidGraph(%v) = %v", g, !wantValid(g))
		}
	})
	d := &dice{state: 3}
	for range 20000 {
		if g := d.anyGraph(); impl.ValidGraph(g) != wantValid(g) {
			t.Errorf("ValidGraph(%v) = %v", g, !wantValid(g))
		}
		if g := d.validGraph(); !impl.ValidGraph(g) {
			t.Errorf("ValidGraph(%v) = false", g)
		}
	}
}

func TestLimitsOfGraphs(t *testing.T) {
	for _, g := range []impl.Graph{
		chain(impl.MaxNodes),
		graph(0, number(0)),
		graph(0, number(impl.MaxInt)),
		graph(0, text(0)),
		graph(0, text(impl.MaxWord)),
		graph(0, object(0)),
		graph(0, object(impl.MaxClass, 0)),
		graph(0, list(1, 1, 1, 1, 1, 1), number(0)),
		graph(0, tuple(1, 1, 1, 1, 1, 1), number(0)),
		graph(0, dict(1, 1, 2, 1, 3, 1), number(3), text(3), text(0)),
	} {
		if !impl.ValidGraph(g) {
			t.Errorf("ValidGraph(%v) = false", g)
		}
	}
	want := []int{impl.MaxNodes, 12, impl.MaxKids, 6, impl.MaxInt, 999, impl.MaxWord, 9, impl.MaxClass, 9, impl.MaxTree, 5000,
		impl.NkInt, 0, impl.NkText, 1, impl.NkTuple, 2, impl.NkList, 3, impl.NkDict, 4, impl.NkObj, 5}
	for i := 0; i < len(want); i += 2 {
		if want[i] != want[i+1] {
			t.Errorf("the constant %d is %d, not %d", i/2, want[i], want[i+1])
		}
	}
}

func TestInvalidArguments(t *testing.T) {
	good := graph(0, list(1), number(0))
	invalidGraphs(t, func(g impl.Graph) {
		if impl.ReachOf(g) != nil || impl.CodeOf(g) != nil || impl.SharedOf(g) != nil || impl.CyclesOf(g) != nil {
			t.Errorf("a list is told of %v", g)
		}
		if impl.SameGraph(g, g) || impl.SameGraph(g, good) || impl.SameGraph(good, g) {
			t.Errorf("SameGraph(%v)", g)
		}
		order := make([]int, len(g.Nodes))
		for i := range order {
			order[i] = i
		}
		if !isZero(impl.PrunedGraph(g)) || !isZero(impl.RenumberGraph(g, order)) || impl.TreeSize(g) != -1 {
			t.Errorf("PrunedGraph(%v)", g)
		}
	})
}

func TestInvalidOrders(t *testing.T) {
	g := graph(2, number(0), text(0), list(0, 1))
	for _, order := range [][]int{nil, {}, {0}, {0, 1}, {0, 1, 2, 3}, {0, 1, 1}, {0, 0, 2}, {2, 1, 2}, {0, 1, 3}, {1, 2, 3}, {-1, 0, 1}, {0, 1, -2}, {0, 1, math.MaxInt}, {0, 1, 2, 2}} {
		if r := impl.RenumberGraph(g, order); !isZero(r) {
			t.Errorf("RenumberGraph(%v) = %v", order, r)
		}
	}
	if !isZero(impl.RenumberGraph(impl.Graph{}, nil)) {
		t.Errorf("RenumberGraph of no nodes")
	}
}

func TestGivenExamples(t *testing.T) {
	for _, c := range []struct {
		g                           impl.Graph
		reach, code, shared, cycles []int
		tree                        int
	}{
		{graph(0, number(7)), []int{0}, []int{0, 7, 0}, nil, nil, 1},
		{graph(1, number(7), text(3)), []int{1}, []int{1, 3, 0}, nil, nil, 1},
		{graph(0, list(0)), []int{0}, []int{3, 0, 1, -1, 0}, []int{0}, []int{0}, 5000},
		{graph(0, object(4, 0)), []int{0}, []int{5, 4, 1, -1, 0}, []int{0}, []int{0}, 5000},
		{graph(0, dict(1, 0, 2, 2), number(5), text(5)), []int{0, 1, 2}, []int{4, 0, 4, 0, 5, 0, -1, 0, 1, 5, 0, -1, 1}, []int{0, 2}, []int{0}, 5000},
		{graph(0, list(1, 1), number(5)), []int{0, 1}, []int{3, 0, 2, 0, 5, 0, 0, 5, 0}, nil, nil, 3},
		{graph(0, list(1, 2), text(5), text(5)), []int{0, 1, 2}, []int{3, 0, 2, 1, 5, 0, 1, 5, 0}, nil, nil, 3},
		{graph(0, list(1, 2, 1), number(5), tuple()), []int{0, 1, 2}, []int{3, 0, 3, 0, 5, 0, 2, 0, 0, 0, 5, 0}, nil, nil, 4},
		{graph(2, list(), tuple(2), list(3, 0, 1), tuple(0)), []int{2, 3, 0, 1}, []int{3, 0, 3, 2, 0, 1, 3, 0, 0, -1, 2, 2, 0, 1, -1, 0}, []int{0, 2}, []int{1, 2}, 5000},
		{graph(3, list(0, 4), list(1), dict(), tuple(2, 2), tuple(3)), []int{3, 2}, []int{2, 0, 2, 4, 0, 0, -1, 1}, []int{2}, nil, 3},
		{graph(0, list(1), list(2), list(1)), []int{0, 1, 2}, []int{3, 0, 1, 3, 0, 1, 3, 0, 1, -1, 1}, []int{1}, []int{1, 2}, 5000},
	} {
		if got := impl.ReachOf(c.g); !slices.Equal(got, c.reach) {
			t.Errorf("ReachOf(%v) = %v", c.g, got)
		}
		if got := impl.CodeOf(c.g); !slices.Equal(got, c.code) {
			t.Errorf("CodeOf(%v) = %v", c.g, got)
		}
		if got := impl.SharedOf(c.g); !slices.Equal(got, c.shared) {
			t.Errorf("SharedOf(%v) = %v", c.g, got)
		}
		if got := impl.CyclesOf(c.g); !slices.Equal(got, c.cycles) {
			t.Errorf("CyclesOf(%v) = %v", c.g, got)
		}
		if got := impl.TreeSize(c.g); got != c.tree {
			t.Errorf("TreeSize(%v) = %v", c.g, got)
		}
	}
}

func TestSameGraphs(t *testing.T) {
	for _, c := range []struct {
		a, b impl.Graph
		same bool
	}{
		{graph(0, list(1, 1), number(5)), graph(2, number(5), number(5), list(1, 0)), true},
		{graph(0, list(1, 1), text(5)), graph(0, list(1, 2), text(5), text(5)), false},
		{graph(0, list(1, 1), tuple()), graph(0, list(1, 2), tuple(), tuple()), false},
		{graph(0, list(1, 2), text(5), text(5)), graph(1, text(5), list(2, 0), text(5)), true},
		{graph(0, list(0)), graph(0, list(1), list(0)), false},
		{graph(0, list(0)), graph(1, number(0), list(1), list(2, 1)), true},
		{graph(0, list(1, 2), number(1), number(2)), graph(0, list(2, 1), number(1), number(2)), false},
		{graph(0, list(1, 2), number(1), number(2)), graph(0, list(2, 1), number(2), number(1)), true},
		{graph(0, list()), graph(0, tuple()), false},
		{graph(0, list()), graph(0, dict()), false},
		{graph(0, number(1)), graph(0, text(1)), false},
		{graph(0, number(1)), graph(0, number(2)), false},
		{graph(0, object(1)), graph(0, object(2)), false},
		{graph(0, object(1)), graph(0, object(1, 0)), false},
		{graph(0, list(1, 1), list()), graph(0, list(1), list()), false},
		{graph(0, list(1, 2), list(3), list(), number(1)), graph(0, list(1, 3), list(), list(2), number(1)), false},
	} {
		if impl.SameGraph(c.a, c.b) != c.same || impl.SameGraph(c.b, c.a) != c.same {
			t.Errorf("SameGraph(%v, %v) = %v", c.a, c.b, !c.same)
		}
	}
}

func TestAgainstReference(t *testing.T) {
	validGraphs(func(g impl.Graph) {
		if got := impl.ReachOf(g); !slices.Equal(got, wantReach(g)) {
			t.Errorf("ReachOf(%v) = %v", g, got)
		}
		if got := impl.CodeOf(g); !slices.Equal(got, wantCode(g)) {
			t.Errorf("CodeOf(%v) = %v", g, got)
		}
		if got := impl.SharedOf(g); !slices.Equal(got, wantShared(g)) {
			t.Errorf("SharedOf(%v) = %v", g, got)
		}
		if got := impl.CyclesOf(g); !slices.Equal(got, wantCycles(g)) {
			t.Errorf("CyclesOf(%v) = %v", g, got)
		}
		if got := impl.PrunedGraph(g); !identical(got, wantPruned(g)) {
			t.Errorf("PrunedGraph(%v) = %v", g, got)
		}
		if got := impl.TreeSize(g); got != wantTree(g) {
			t.Errorf("TreeSize(%v) = %v", g, got)
		}
	})
}

func TestSameAgainstReference(t *testing.T) {
	d := &dice{state: 4}
	var last impl.Graph
	smallGraphs(func(g impl.Graph) {
		if !wantValid(g) {
			return
		}
		if len(last.Nodes) > 0 && impl.SameGraph(g, last) != slices.Equal(wantCode(g), wantCode(last)) {
			t.Errorf("SameGraph(%v, %v)", g, last)
		}
		if last.Nodes == nil || d.below(7) == 0 {
			last = g
		}
	})
}

// TestFreshResults writes over all memory of the results, and looks at the arguments and at other parts of the results.
func TestFreshResults(t *testing.T) {
	shared := []int{1, 2}
	graphs := []impl.Graph{graph(0, list(shared...), tuple(shared[1:]...), list(shared...)), graph(2, number(1), text(2), list(0, 1, 2))}
	for _, g := range graphs {
		before := copied(g)
		order := []int{2, 0, 1}
		for _, f := range []func() []int{
			func() []int { return impl.ReachOf(g) },
			func() []int { return impl.CodeOf(g) },
			func() []int { return impl.SharedOf(g) },
			func() []int { return impl.CyclesOf(g) },
		} {
			first := f()
			want := slices.Clone(first)
			spoil(first)
			if got := f(); !slices.Equal(got, want) || !identical(g, before) {
				t.Errorf("%v is %v after its result was changed", want, got)
			}
		}
		for _, f := range []func() impl.Graph{
			func() impl.Graph { return impl.PrunedGraph(g) },
			func() impl.Graph { return impl.RenumberGraph(g, order) },
		} {
			checkFresh(t, f)
			if !identical(g, before) || !slices.Equal(order, []int{2, 0, 1}) {
				t.Errorf("an argument has changed: %v, not %v", g, before)
			}
		}
		impl.SameGraph(g, g)
		impl.TreeSize(g)
		impl.ValidGraph(g)
		if !identical(g, before) {
			t.Errorf("an argument has changed: %v, not %v", g, before)
		}
	}
}

// checkFresh spoils the kids of each node of a result, which must not change those of others, and then the nodes.
func checkFresh(t *testing.T, f func() impl.Graph) {
	t.Helper()
	want := f()
	for i := range want.Nodes {
		r := f()
		spoil(r.Nodes[i].Kids)
		r.Nodes[i].Kids = want.Nodes[i].Kids
		if !identical(r, want) {
			t.Errorf("the kids of the node %d of %v share memory", i, want)
		}
	}
	r := f()
	nodes := r.Nodes[:cap(r.Nodes)]
	for i := range nodes {
		nodes[i] = impl.Node{Kind: -9}
	}
	if !identical(f(), want) {
		t.Errorf("the nodes of %v are kept", want)
	}
}

// spoil writes over a list and its spare capacity.
func spoil(list []int) {
	list = list[:cap(list)]
	for i := range list {
		list[i] = -99
	}
}
