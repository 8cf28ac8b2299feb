package tests

import (
	"math"
	"slices"
	"testing"

	"loop.example/graphcode/impl"
)

func TestGivenEqualities(t *testing.T) {
	for _, c := range equalities() {
		if !impl.ValidGraph(c.a) || !impl.ValidGraph(c.b) {
			t.Fatalf("%v or %v is not valid", c.a, c.b)
		}
		for depth := range impl.MaxDepth + 1 {
			if want := depth <= c.depth; impl.EqualTo(c.a, c.b, depth) != want || impl.EqualTo(c.b, c.a, depth) != want {
				t.Errorf("EqualTo(%v, %v, %d) is not %v", c.a, c.b, depth, want)
			}
		}
		if want := c.depth == always; impl.EqualDeep(c.a, c.b) != want || impl.EqualDeep(c.b, c.a) != want {
			t.Errorf("EqualDeep(%v, %v) is not %v", c.a, c.b, want)
		}
		// The reference is right up to this depth, and beyond it.
		if !wantEqualTo(c.a, c.b, c.depth) || c.depth < always && wantEqualTo(c.a, c.b, c.depth+1) || wantEqualDeep(c.a, c.b) != (c.depth == always) {
			t.Errorf("the reference of %v and %v is wrong", c.a, c.b)
		}
	}
}

func TestEqualitiesAgainstReference(t *testing.T) {
	equal, deeper, shallower := 0, 0, 0
	graphPairs(func(a impl.Graph, b impl.Graph) {
		beforeA, beforeB := copied(a), copied(b)
		want := wantEqualDeep(a, b)
		if impl.EqualDeep(a, b) != want {
			t.Errorf("EqualDeep(%v, %v) = %v", a, b, !want)
		}
		for depth := range impl.MaxDepth + 1 {
			if impl.EqualTo(a, b, depth) != wantEqualTo(a, b, depth) {
				t.Errorf("EqualTo(%v, %v, %d) = %v", a, b, depth, !wantEqualTo(a, b, depth))
			}
		}
		if !identical(a, beforeA) || !identical(b, beforeB) {
			t.Errorf("an argument has changed: %v or %v", beforeA, beforeB)
		}
		switch {
		case want:
			equal++
		case wantEqualTo(a, b, 3):
			deeper++
		default:
			shallower++
		}
	})
	if equal < 5000 || deeper < 100 || shallower < 2000 {
		t.Errorf("%d pairs are equal, %d differ below the depth 3, and %d above it", equal, deeper, shallower)
	}
}

// TestSmallEqualities has all valid graphs of two nodes: each is held against one of each other kind of tree.
func TestSmallEqualities(t *testing.T) {
	var different []impl.Graph
	count := 0
	smallGraphs(func(g impl.Graph) {
		if !wantValid(g) {
			return
		}
		count++
		alike := 0
		for _, other := range different {
			want := wantEqualDeep(g, other)
			if impl.EqualDeep(g, other) != want || impl.EqualTo(other, g, 4) != want {
				t.Errorf("EqualDeep(%v, %v) = %v", g, other, !want)
			}
			if want {
				alike++
			}
		}
		if alike == 0 {
			different = append(different, g)
		} else if alike > 1 {
			t.Errorf("%v is equal to %d graphs that differ", g, alike)
		}
	})
	if count < 500 || len(different) < 100 || len(different) > count/2 {
		t.Errorf("%d graphs unfold to %d trees", count, len(different))
	}
}

func TestGivenClasses(t *testing.T) {
	for _, c := range []struct {
		g       impl.Graph
		classes []int
		least   impl.Graph
	}{
		{graph(0, number(5)), []int{0}, graph(0, number(5))},
		{graph(0, list(0)), []int{0}, graph(0, list(0))},
		{graph(1, number(5), number(5)), []int{0, 0}, graph(0, number(5))},
		{graph(1, number(5), text(5)), []int{0, 1}, graph(0, text(5))},
		{chain(2), []int{0, 0}, graph(0, list(0))},
		{chain(12), make([]int, 12), graph(0, list(0))},
		{graph(2, list(1), list(2), list(2)), []int{0, 0, 0}, graph(0, list(0))},
		{graph(0, list(1, 2), text(7), text(7)), []int{0, 1, 1}, graph(0, list(1, 1), text(7))},
		{graph(2, text(7), text(7), list(1, 0, 1)), []int{0, 0, 2}, graph(0, list(1, 1, 1), text(7))},
		{graph(0, list(1, 2), text(7), text(8)), []int{0, 1, 2}, graph(0, list(1, 2), text(7), text(8))},
		{graph(0, list(1, 2), list(), tuple()), []int{0, 1, 2}, graph(0, list(1, 2), list(), tuple())},
		{graph(3, list(), list(), list(0), list(1)), []int{0, 0, 2, 2}, graph(0, list(1), list())},
		{graph(0, tuple(1), list(2), tuple(3), list(0)), []int{0, 1, 0, 1}, graph(0, tuple(1), list(0))},
		{graph(3, tuple(1), list(2), tuple(3), list(0)), []int{0, 1, 0, 1}, graph(0, list(1), tuple(0))},
		{graph(0, dict(1, 2, 3, 4), number(1), number(2), text(1), number(1)), []int{0, 1, 2, 3, 1}, graph(0, dict(1, 2, 3, 1), number(1), number(2), text(1))},
		{graph(4, dict(2, 3), dict(3, 2), number(1), number(2), list(0, 1)), []int{0, 1, 2, 3, 4}, graph(0, list(1, 4), dict(2, 3), number(1), number(2), dict(3, 2))},
		{graph(4, dict(2, 3), dict(5, 3), number(1), number(2), list(1, 0), number(1)), []int{0, 0, 2, 3, 4, 2}, graph(0, list(1, 1), dict(2, 3), number(1), number(2))},
		{graph(2, object(1), object(1), object(1, 0), object(1, 1), object(2, 1)), []int{0, 0, 2, 2, 4}, graph(0, object(1, 1), object(1))},
		{ring(1, 2, 1, 2), []int{0, 1, 0, 1}, ring(1, 2)},
		{ring(1, 2, 1), []int{0, 1, 2}, ring(1, 2, 1)},
		{ring(1, 1, 2, 1, 1, 2), []int{0, 1, 2, 0, 1, 2}, ring(1, 1, 2)},
		{beside(ring(1, 2), ring(1, 2, 1)), []int{0, 1, 2, 3, 4}, ring(1, 2)},
		{beside(ring(1, 2, 1, 2), ring(2, 1)), []int{0, 1, 0, 1, 1, 0}, ring(1, 2)},
		{stick(11, list()), []int{0, 1, 2, 3, 4, 5, 6, 7, 8, 9, 10, 11}, stick(11, list())},
		{stick(11, list(11)), make([]int, 12), graph(0, list(0))},
		{bomb(11), []int{0, 1, 2, 3, 4, 5, 6, 7, 8, 9, 10, 11}, wantPruned(bomb(11))},
		// What is not reached is told of, too, and may be what stands in the place of others, but is not kept.
		{graph(2, text(3), list(0), list(3), text(3), list(4), text(4)), []int{0, 1, 1, 0, 4, 5}, graph(0, list(1), text(3))},
		{graph(3, list(1), number(1), list(4), list(2), number(1)), []int{0, 1, 0, 3, 1}, graph(0, list(1), list(2), number(1))},
	} {
		if got := impl.ClassesOf(c.g); !slices.Equal(got, c.classes) {
			t.Errorf("ClassesOf(%v) = %v", c.g, got)
		}
		if got := impl.LeastGraph(c.g); !identical(got, c.least) {
			t.Errorf("LeastGraph(%v) = %v", c.g, got)
		}
	}
	// These rings are equal up to one depth less than both have nodes.
	rings := nearRings(7, 5)
	if got := impl.ClassesOf(beside(rings.a, rings.b)); !slices.Equal(got, wantClasses(beside(rings.a, rings.b))) || got[0] == got[7] {
		t.Errorf("ClassesOf(%v) = %v", beside(rings.a, rings.b), got)
	}
}

func TestClassesAgainstReference(t *testing.T) {
	fewer := 0
	manyGraphs(func(g impl.Graph) {
		before := copied(g)
		classes := wantClasses(g)
		if got := impl.ClassesOf(g); !slices.Equal(got, classes) {
			t.Errorf("ClassesOf(%v) = %v", g, got)
		}
		least := wantLeast(g)
		if got := impl.LeastGraph(g); !identical(got, least) {
			t.Errorf("LeastGraph(%v) = %v", g, got)
		}
		if len(least.Nodes) < len(wantReach(g)) {
			fewer++
		}
		if got := impl.MergeTexts(g); !identical(got, wantMerged(g)) {
			t.Errorf("MergeTexts(%v) = %v", g, got)
		}
		tree, ok := wantUnshared(g)
		if got, gotOK := impl.UnshareGraph(g); gotOK != ok || !identical(got, tree) || !ok && !isZero(got) {
			t.Errorf("UnshareGraph(%v) = %v, %v", g, got, gotOK)
		}
		shallow := wantShallow(g)
		if got := impl.ShallowCopy(g); !identical(got, shallow) || isZero(got) != isZero(shallow) {
			t.Errorf("ShallowCopy(%v) = %v", g, got)
		}
		if !identical(g, before) {
			t.Errorf("an argument has changed: %v, not %v", g, before)
		}
	})
	if fewer < 1000 {
		t.Errorf("only %d graphs have fewer nodes as their least graphs", fewer)
	}
}

func TestGivenMergedTexts(t *testing.T) {
	for _, c := range []struct{ g, want impl.Graph }{
		{graph(0, text(7)), graph(0, text(7))},
		{graph(1, text(7), text(7)), graph(0, text(7), text(7))},
		{graph(1, text(7), text(8)), graph(1, text(7), text(8))},
		{graph(0, list(1, 2), text(7), text(7)), graph(0, list(1, 1), text(7), text(7))},
		{graph(2, text(7), text(7), list(1, 0, 1)), graph(2, text(7), text(7), list(0, 0, 0))},
		{graph(0, list(1, 2, 3), text(7), text(8), text(7)), graph(0, list(1, 2, 1), text(7), text(8), text(7))},
		// Only texts are merged.
		{graph(0, list(1, 2), number(7), number(7)), graph(0, list(1, 2), number(7), number(7))},
		{graph(0, list(1, 2), number(7), text(7)), graph(0, list(1, 2), number(7), text(7))},
		{graph(0, list(1, 2), tuple(), tuple()), graph(0, list(1, 2), tuple(), tuple())},
		{chain(2), chain(2)},
		// Keys and values, tuples and states.
		{graph(0, dict(2, 1), text(0), text(0)), graph(0, dict(1, 1), text(0), text(0))},
		{graph(0, dict(2, 3, 1, 3), number(0), text(0), text(0)), graph(0, dict(2, 2, 1, 2), number(0), text(0), text(0))},
		{graph(0, tuple(2, 1), text(9), text(9), object(9, 2)), graph(0, tuple(1, 1), text(9), text(9), object(9, 1))},
		// The first one may be one that is not reached.
		{graph(1, text(4), list(2), text(4)), graph(1, text(4), list(0), text(4))},
		{graph(3, text(4), list(3), list(0), text(4)), graph(0, text(4), list(0), list(0), text(4))},
		{graph(11, text(0), text(1), text(2), text(3), text(0), text(1), text(2), text(3), text(0), text(1), text(9), list(4, 5, 6, 7, 8, 10)),
			graph(11, text(0), text(1), text(2), text(3), text(0), text(1), text(2), text(3), text(0), text(1), text(9), list(0, 1, 2, 3, 0, 10))},
	} {
		if got := impl.MergeTexts(c.g); !identical(got, c.want) {
			t.Errorf("MergeTexts(%v) = %v", c.g, got)
		}
	}
}

func TestGivenTrees(t *testing.T) {
	for _, c := range []struct{ g, want impl.Graph }{
		{graph(0, number(5)), graph(0, number(5))},
		{graph(2, number(5), text(1), text(2)), graph(0, text(2))},
		{graph(0, list(1, 1), text(7)), graph(0, list(1, 2), text(7), text(7))},
		{graph(0, list(1, 1), number(7)), graph(0, list(1, 2), number(7), number(7))},
		{graph(0, tuple(1, 1), list()), graph(0, tuple(1, 2), list(), list())},
		{graph(2, number(5), tuple(0), list(1, 0, 1)), graph(0, list(1, 3, 4), tuple(2), number(5), number(5), tuple(5), number(5))},
		{bomb(2), graph(0, tuple(1, 4), tuple(2, 3), number(1), number(1), tuple(5, 6), number(1), number(1))},
		{graph(0, dict(1, 2, 3, 2), number(1), object(4, 3), text(1)), graph(0, dict(1, 2, 4, 5), number(1), object(4, 3), text(1), text(1), object(4, 6), text(1))},
		{graph(0, list(2, 1), list(3), list(1, 3), text(0)), graph(0, list(1, 5), list(2, 4), list(3), text(0), text(0), list(6), text(0))},
		// Cycles that are not reached do not matter.
		{graph(1, list(0), list(2), number(3)), graph(0, list(1), number(3))},
		{graph(2, tuple(1, 2), list(0), tuple()), graph(0, tuple())},
		// As many nodes as there may be.
		{stick(11, text(1)), stick(11, text(1))},
		{graph(0, list(1, 1), list(2, 2, 2, 2), tuple()), graph(0, list(1, 6), list(2, 3, 4, 5), tuple(), tuple(), tuple(), tuple(), list(7, 8, 9, 10), tuple(), tuple(), tuple(), tuple())},
		{graph(0, list(1, 1, 1, 1, 1, 2), number(0), tuple(1, 1, 1, 1, 1)), graph(0, list(1, 2, 3, 4, 5, 6), number(0), number(0), number(0), number(0), number(0), tuple(7, 8, 9, 10, 11),
			number(0), number(0), number(0), number(0), number(0))},
		// One more, and many more.
		{graph(0, list(1, 1, 1, 1, 1, 2), number(0), tuple(1, 1, 1, 1, 1, 1)), impl.Graph{}},
		{graph(0, list(1, 1), tuple(2, 2, 2, 2, 2), number(0)), impl.Graph{}},
		{graph(0, tuple(1, 1, 2), list(2, 2, 2), list(3), number(0)), impl.Graph{}},
		{bomb(3), impl.Graph{}},
		{bomb(11), impl.Graph{}},
		{rooted(weighed(), 7), impl.Graph{}},
		{rooted(weighed(), 9), impl.Graph{}},
		// Cycles.
		{graph(0, list(0)), impl.Graph{}},
		{graph(0, list(1), list(1)), impl.Graph{}},
		{chain(12), impl.Graph{}},
		{graph(0, tuple(1), list(0)), impl.Graph{}},
		{graph(0, dict(1, 0), number(1)), impl.Graph{}},
		{graph(2, object(3, 0), text(1), tuple(1, 0)), impl.Graph{}},
	} {
		got, ok := impl.UnshareGraph(c.g)
		if ok == isZero(c.want) || !identical(got, c.want) || !ok && !isZero(got) {
			t.Errorf("UnshareGraph(%v) = %v, %v", c.g, got, ok)
		}
	}
}

func TestGivenShallowCopies(t *testing.T) {
	for _, c := range []struct{ g, want impl.Graph }{
		{graph(0, number(5)), graph(1, number(5), number(5))},
		{graph(0, list(0)), graph(1, list(0), list(0))},
		{graph(0, list(0, 1, 0), text(3)), graph(2, list(0, 1, 0), text(3), list(0, 1, 0))},
		{graph(1, list(0), tuple(0, 2), text(3)), graph(3, list(0), tuple(0, 2), text(3), tuple(0, 2))},
		{graph(1, tuple(1), list(0)), graph(2, tuple(1), list(0), list(0))},
		{graph(0, tuple(1), list(0)), graph(2, tuple(1), list(0), tuple(1))},
		{graph(0, object(4, 0)), graph(1, object(4, 0), object(4, 0))},
		{graph(0, dict(1, 0), text(3)), graph(2, dict(1, 0), text(3), dict(1, 0))},
		{chain(12), impl.Graph{}},
		{bomb(11), impl.Graph{}},
		{graph(0, slices.Repeat([]impl.Node{number(1)}, 12)...), impl.Graph{}},
	} {
		if got := impl.ShallowCopy(c.g); !identical(got, c.want) || isZero(got) != isZero(c.want) {
			t.Errorf("ShallowCopy(%v) = %v", c.g, got)
		}
	}
	// The last copy of a graph of one node is its twelfth node.
	g := graph(0, list(0))
	for count := 2; count <= impl.MaxNodes; count++ {
		g = impl.ShallowCopy(g)
		if len(g.Nodes) != count || g.Root != count-1 || !slices.Equal(g.Nodes[g.Root].Kids, []int{0}) {
			t.Errorf("ShallowCopy with %d nodes = %v", count, g)
		}
	}
	if more := impl.ShallowCopy(g); !isZero(more) {
		t.Errorf("ShallowCopy(%v) = %v", g, more)
	}
}

func TestInvalidEqualities(t *testing.T) {
	if impl.MaxDepth != 8 {
		t.Errorf("MaxDepth = %d", impl.MaxDepth)
	}
	good := graph(0, list(1), number(0))
	invalidGraphs(t, func(g impl.Graph) {
		if impl.EqualDeep(g, g) || impl.EqualDeep(g, good) || impl.EqualDeep(good, g) || impl.ClassesOf(g) != nil {
			t.Errorf("%v is equal to something", g)
		}
		for depth := range impl.MaxDepth + 1 {
			if impl.EqualTo(g, g, depth) || impl.EqualTo(g, good, depth) || impl.EqualTo(good, g, depth) {
				t.Errorf("%v is equal to something up to %d", g, depth)
			}
		}
		tree, ok := impl.UnshareGraph(g)
		if !isZero(impl.ShallowCopy(g)) || !isZero(impl.LeastGraph(g)) || !isZero(impl.MergeTexts(g)) || !isZero(tree) || ok {
			t.Errorf("there is a graph for %v", g)
		}
	})
	for _, depth := range []int{-1, -2, 9, 10, 100, math.MinInt, math.MaxInt} {
		for _, g := range []impl.Graph{good, graph(0, list(0)), graph(0, number(1))} {
			if impl.EqualTo(g, g, depth) {
				t.Errorf("EqualTo(%v, %v, %d)", g, g, depth)
			}
		}
	}
}

// TestFreshEqualities writes over all memory of the results, and looks at the arguments and at the next results.
func TestFreshEqualities(t *testing.T) {
	shared := []int{1, 2, 1, 3}
	g := graph(0, list(shared...), tuple(shared[1:2]...), text(3), text(3), tuple(shared[3:]...))
	before := copied(g)
	for _, f := range []func() impl.Graph{
		func() impl.Graph { return impl.ShallowCopy(g) },
		func() impl.Graph { return impl.LeastGraph(g) },
		func() impl.Graph { return impl.MergeTexts(g) },
		func() impl.Graph {
			tree, _ := impl.UnshareGraph(g)
			return tree
		},
	} {
		if len(f().Nodes) == 0 {
			t.Fatalf("there is no graph for %v", g)
		}
		checkFresh(t, f)
		if !identical(g, before) || !slices.Equal(shared, []int{1, 2, 1, 3}) {
			t.Errorf("an argument has changed: %v, not %v", g, before)
		}
	}
	first := impl.ClassesOf(g)
	want := slices.Clone(first)
	spoil(first)
	if got := impl.ClassesOf(g); !slices.Equal(got, want) || !identical(g, before) {
		t.Errorf("%v is %v after its result was changed", want, got)
	}
	impl.EqualDeep(g, g)
	impl.EqualTo(g, g, 5)
	if !identical(g, before) {
		t.Errorf("an argument has changed: %v, not %v", g, before)
	}
}
