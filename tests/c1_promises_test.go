package tests

import (
	"slices"
	"testing"

	"loop.example/graphcode/impl"
)

func TestPromise1RootsAreFree(t *testing.T) {
	validGraphs(func(g impl.Graph) {
		for root := range g.Nodes {
			if !impl.ValidGraph(rooted(g, root)) {
				t.Errorf("ValidGraph(%v) = false", rooted(g, root))
			}
		}
		if impl.ValidGraph(rooted(g, -1)) || impl.ValidGraph(rooted(g, len(g.Nodes))) {
			t.Errorf("%v is valid with a Root that is no node", g)
		}
	})
}

func TestPromise2ReachIsClosed(t *testing.T) {
	validGraphs(func(g impl.Graph) {
		reach := impl.ReachOf(g)
		if len(reach) == 0 || reach[0] != g.Root {
			t.Fatalf("ReachOf(%v) = %v", g, reach)
		}
		for at, i := range reach {
			for _, k := range g.Nodes[i].Kids {
				if !slices.Contains(reach, k) {
					t.Errorf("ReachOf(%v) = %v lacks %d", g, reach, k)
				}
			}
			isKid := func(before int) bool { return slices.Contains(g.Nodes[before].Kids, i) }
			if at > 0 && (!slices.ContainsFunc(reach[:at], isKid) || slices.Contains(reach[:at], i)) {
				t.Errorf("ReachOf(%v) = %v has %d", g, reach, i)
			}
		}
	})
}

// withoutUnreached returns the graph g without the nodes that are not reached, with the others in their old order.
func withoutUnreached(g impl.Graph) impl.Graph {
	kept := slices.Sorted(slices.Values(impl.ReachOf(g)))
	var nodes []impl.Node
	for _, i := range kept {
		n := impl.Node{Kind: g.Nodes[i].Kind, Value: g.Nodes[i].Value}
		for _, k := range g.Nodes[i].Kids {
			n.Kids = append(n.Kids, slices.Index(kept, k))
		}
		nodes = append(nodes, n)
	}
	return graph(slices.Index(kept, g.Root), nodes...)
}

func TestPromise3CodesDoNotKnowIndices(t *testing.T) {
	validGraphs(func(g impl.Graph) {
		code := impl.CodeOf(g)
		if len(code) < 3 || !slices.Equal(impl.CodeOf(impl.PrunedGraph(g)), code) {
			t.Errorf("CodeOf(%v) = %v", impl.PrunedGraph(g), impl.CodeOf(impl.PrunedGraph(g)))
		}
		less := withoutUnreached(g)
		if !slices.Equal(impl.CodeOf(less), code) {
			t.Errorf("CodeOf(%v) = %v", less, impl.CodeOf(less))
		}
		if len(g.Nodes) < impl.MaxNodes {
			more := graph(g.Root, append(copied(g).Nodes, list(g.Root, len(g.Nodes)))...)
			if !slices.Equal(impl.CodeOf(more), code) {
				t.Errorf("CodeOf(%v) = %v", more, impl.CodeOf(more))
			}
		}
	})
}

func TestPromise6TreesShareNothing(t *testing.T) {
	validGraphs(func(g impl.Graph) {
		shared, reach := impl.SharedOf(g), impl.ReachOf(g)
		for at, i := range shared {
			if !slices.Contains(reach, i) || g.Nodes[i].Kind == impl.NkInt || at > 0 && shared[at-1] >= i {
				t.Errorf("SharedOf(%v) = %v", g, shared)
			}
		}
		if impl.TreeSize(g) == len(reach) && len(shared) > 0 {
			t.Errorf("SharedOf(%v) = %v", g, shared)
		}
		if impl.TreeSize(g) > len(reach) && !slices.ContainsFunc(reach, func(i int) bool { return g.Nodes[i].Kind == impl.NkInt }) && len(shared) == 0 {
			t.Errorf("SharedOf(%v) = %v", g, shared)
		}
	})
}

func TestPromise7CyclesAreShared(t *testing.T) {
	found := 0
	validGraphs(func(g impl.Graph) {
		cycles, shared := impl.CyclesOf(g), impl.SharedOf(g)
		if len(cycles) == 0 {
			return
		}
		found++
		isShared := func(i int) bool { return slices.Contains(shared, i) }
		canChange := func(i int) bool { return g.Nodes[i].Kind >= impl.NkList }
		if !slices.ContainsFunc(cycles, isShared) || !slices.ContainsFunc(cycles, canChange) || !slices.IsSorted(cycles) {
			t.Errorf("CyclesOf(%v) = %v", g, cycles)
		}
		if impl.TreeSize(g) != impl.MaxTree {
			t.Errorf("TreeSize(%v) = %v", g, impl.TreeSize(g))
		}
	})
	if found == 0 {
		t.Errorf("no graph has a cycle")
	}
	for _, g := range []impl.Graph{graph(0, tuple(1), list(0)), graph(0, tuple(1), object(3, 0)), graph(0, tuple(1), dict(2, 0), text(3))} {
		if got := impl.CyclesOf(g); !slices.Equal(got, []int{0, 1}) {
			t.Errorf("CyclesOf(%v) = %v", g, got)
		}
	}
}

func TestPromise8PrunedIsTheSameGraph(t *testing.T) {
	validGraphs(func(g impl.Graph) {
		pruned := impl.PrunedGraph(g)
		if !impl.ValidGraph(pruned) || pruned.Root != 0 || !impl.SameGraph(pruned, g) || !impl.SameGraph(g, pruned) {
			t.Errorf("PrunedGraph(%v) = %v", g, pruned)
		}
		reach := impl.ReachOf(pruned)
		if len(reach) != len(pruned.Nodes) || len(reach) != len(impl.ReachOf(g)) {
			t.Errorf("PrunedGraph(%v) = %v", g, pruned)
		}
		for at, i := range reach {
			if at != i {
				t.Errorf("ReachOf(%v) = %v", pruned, reach)
			}
		}
		if again := impl.PrunedGraph(pruned); !identical(again, pruned) {
			t.Errorf("PrunedGraph(%v) = %v", pruned, again)
		}
	})
}

func TestPromise9TreesAreAtLeastAsGreatAsGraphs(t *testing.T) {
	validGraphs(func(g impl.Graph) {
		size, sum := impl.TreeSize(g), 1
		for _, k := range g.Nodes[g.Root].Kids {
			sum += impl.TreeSize(rooted(g, k))
		}
		if size < len(impl.ReachOf(g)) || size != min(sum, impl.MaxTree) {
			t.Errorf("TreeSize(%v) = %d, not %d", g, size, sum)
		}
	})
	for root, want := range []int{1, 7, 43, 259, 1555, 73, 74, 4999, 5000, 5000} {
		if got := impl.TreeSize(rooted(weighed(), root)); got != want {
			t.Errorf("TreeSize of %d is %d, not %d", root, got, want)
		}
	}
	for levels := range impl.MaxNodes {
		if got := impl.TreeSize(bomb(levels)); got != 2<<levels-1 {
			t.Errorf("TreeSize of %d levels is %d", levels, got)
		}
	}
	wide := graph(11, number(0))
	for i := range impl.MaxNodes - 1 {
		wide.Nodes = append(wide.Nodes, tuple(i, i, i, i, i, i))
	}
	if got := impl.TreeSize(wide); got != impl.MaxTree {
		t.Errorf("TreeSize(%v) = %d", wide, got)
	}
}

func TestPromise10NamesDoNotMatter(t *testing.T) {
	d := &dice{state: 10}
	validGraphs(func(g impl.Graph) {
		order := d.order(len(g.Nodes))
		back := make([]int, len(order))
		for i, at := range order {
			back[at] = i
		}
		r := impl.RenumberGraph(g, order)
		if !impl.ValidGraph(r) || !impl.SameGraph(r, g) || !identical(r, shuffled(g, order)) {
			t.Errorf("RenumberGraph(%v, %v) = %v", g, order, r)
		}
		if again := impl.RenumberGraph(r, back); !identical(again, g) {
			t.Errorf("RenumberGraph(%v, %v) = %v", r, back, again)
		}
	})
	// This order is not its own inverse, so it tells new indices from old ones.
	g := graph(0, list(1, 2), text(1), number(2))
	if r := impl.RenumberGraph(g, []int{1, 2, 0}); !identical(r, graph(1, number(2), list(2, 0), text(1))) {
		t.Errorf("RenumberGraph(%v) = %v", g, r)
	}
}
