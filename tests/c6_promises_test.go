package tests

import (
	"slices"
	"testing"

	"loop.example/graphcode/impl"
)

func TestPromise49ShallowCopiesShareAllButThemselves(t *testing.T) {
	full := 0
	manyGraphs(func(g impl.Graph) {
		s := impl.ShallowCopy(g)
		if len(g.Nodes) == impl.MaxNodes {
			full++
			if !isZero(s) {
				t.Errorf("ShallowCopy(%v) = %v", g, s)
			}
			return
		}
		if !impl.ValidGraph(s) || s.Root != len(g.Nodes) || len(s.Nodes) != len(g.Nodes)+1 {
			t.Fatalf("ShallowCopy(%v) = %v", g, s)
		}
		old := graph(g.Root, s.Nodes[:len(g.Nodes)]...)
		if !impl.EqualDeep(s, g) || !slices.Equal(s.Nodes[s.Root].Kids, g.Nodes[g.Root].Kids) || !identical(old, g) || !impl.SameGraph(rooted(s, g.Root), g) {
			t.Errorf("ShallowCopy(%v) = %v", g, s)
		}
	})
	if full == 0 {
		t.Errorf("no graph is full")
	}
	// A copy of what has itself has not itself, but is equal to it.
	s := impl.ShallowCopy(graph(0, list(0)))
	if impl.SameGraph(s, graph(0, list(0))) || !impl.EqualDeep(s, graph(0, list(0))) || slices.Contains(impl.CyclesOf(s), s.Root) {
		t.Errorf("ShallowCopy of a list of itself = %v", s)
	}
	for _, c := range brokenGraphs() {
		if s := impl.ShallowCopy(c.g); !isZero(s) {
			t.Errorf("%s: ShallowCopy(%v) = %v", c.why, c.g, s)
		}
	}
}

func TestPromise50DeeperIsHarder(t *testing.T) {
	ends := make([]int, impl.MaxDepth+1)
	graphPairs(func(a impl.Graph, b impl.Graph) {
		depth := 0
		for depth <= impl.MaxDepth && impl.EqualTo(a, b, depth) {
			depth++
		}
		if depth == 0 {
			t.Errorf("EqualTo(%v, %v, 0) = false", a, b)
			return
		}
		ends[depth-1]++
		for deeper := depth; deeper <= impl.MaxDepth; deeper++ {
			if impl.EqualTo(a, b, deeper) {
				t.Errorf("EqualTo(%v, %v, %d) = true, but not up to %d", a, b, deeper, depth)
			}
		}
		for depth := range impl.MaxDepth + 1 {
			if !impl.EqualTo(a, a, depth) || impl.EqualTo(a, b, depth) != impl.EqualTo(b, a, depth) {
				t.Errorf("EqualTo(%v, %v, %d) is not the same both ways", a, b, depth)
			}
		}
		if impl.EqualTo(a, b, -1) || impl.EqualTo(a, a, -1) || impl.EqualTo(a, b, impl.MaxDepth+1) || impl.EqualTo(a, a, impl.MaxDepth+1) {
			t.Errorf("EqualTo(%v, %v) up to a depth that there is not", a, b)
		}
	})
	if slices.Contains(ends, 0) {
		t.Errorf("graphs are equal up to the depths %v", ends)
	}
	// Up to the depth 0 all are equal, and only valid ones.
	for _, c := range brokenGraphs() {
		if impl.EqualTo(c.g, c.g, 0) || impl.EqualTo(c.g, graph(0, list()), 0) || impl.EqualTo(graph(0, list()), c.g, 0) {
			t.Errorf("%s: EqualTo(%v, 0) = true", c.why, c.g)
		}
	}
}

func TestPromise51DeepIsAllDepths(t *testing.T) {
	tooDeep := 0
	check := func(a impl.Graph, b impl.Graph) {
		deep, most := impl.EqualDeep(a, b), impl.EqualTo(a, b, impl.MaxDepth)
		for depth := range impl.MaxDepth + 1 {
			if deep && !impl.EqualTo(a, b, depth) {
				t.Errorf("EqualDeep(%v, %v) = true, but EqualTo up to %d is false", a, b, depth)
			}
		}
		if most && !deep {
			tooDeep++
			if len(a.Nodes) <= 4 && len(b.Nodes) <= 4 {
				t.Errorf("EqualDeep(%v, %v) = false, but EqualTo up to %d is true", a, b, impl.MaxDepth)
			}
		}
	}
	graphPairs(check)
	d := &dice{state: 63}
	for range 5000 {
		g := d.smallGraph(4)
		check(g, d.smallGraph(4))
		check(g, d.nearGraph(g))
	}
	if tooDeep == 0 {
		t.Errorf("no graphs differ below the depth %d", impl.MaxDepth)
	}
	// All pairs of rings of up to four objects of two classes.
	var rings []impl.Graph
	for length := 1; length <= 4; length++ {
		for which := range 1 << length {
			classes := make([]int, length)
			for i := range classes {
				classes[i] = which >> i & 1
			}
			rings = append(rings, ring(classes...))
		}
	}
	for _, a := range rings {
		for _, b := range rings {
			if check(a, b); impl.EqualDeep(a, b) != wantEqualDeep(a, b) {
				t.Errorf("EqualDeep(%v, %v) = %v", a, b, !wantEqualDeep(a, b))
			}
		}
	}
	// Two graphs of twelve nodes together differ as deep as they can.
	rings12 := nearRings(12, 11)
	if impl.EqualDeep(rings12.a, rings12.b) || !wantEqualTo(rings12.a, rings12.b, 21) {
		t.Errorf("EqualDeep(%v, %v) = true", rings12.a, rings12.b)
	}
}

func TestPromise52EqualNodesHaveEqualClasses(t *testing.T) {
	equal, different := 0, 0
	manyGraphs(func(g impl.Graph) {
		classes := impl.ClassesOf(g)
		if len(classes) != len(g.Nodes) {
			t.Fatalf("ClassesOf(%v) = %v", g, classes)
		}
		for i, class := range classes {
			if class < 0 || class > i || classes[class] != class {
				t.Errorf("ClassesOf(%v) = %v", g, classes)
			}
			for j := range i {
				if impl.EqualDeep(rooted(g, i), rooted(g, j)) != (class == classes[j]) {
					t.Errorf("ClassesOf(%v) = %v, but not for %d and %d", g, classes, i, j)
				}
				if class == classes[j] {
					equal++
				} else {
					different++
				}
			}
			if !slices.Equal(impl.ClassesOf(rooted(g, i)), classes) {
				t.Errorf("ClassesOf(%v) = %v, not %v", rooted(g, i), impl.ClassesOf(rooted(g, i)), classes)
			}
		}
	})
	if equal < 10000 || different < 10000 {
		t.Errorf("%d pairs of nodes are equal, and %d are not", equal, different)
	}
	for _, c := range brokenGraphs() {
		if classes := impl.ClassesOf(c.g); classes != nil {
			t.Errorf("%s: ClassesOf(%v) = %v", c.why, c.g, classes)
		}
	}
}

func TestPromise53LeastGraphsDecide(t *testing.T) {
	same, equal := 0, 0
	graphPairs(func(a impl.Graph, b impl.Graph) {
		deep := impl.EqualDeep(a, b)
		if deep != impl.SameGraph(impl.LeastGraph(a), impl.LeastGraph(b)) {
			t.Errorf("EqualDeep(%v, %v) = %v, and the least graphs are %v and %v", a, b, deep, impl.LeastGraph(a), impl.LeastGraph(b))
		}
		if deep {
			equal++
			if impl.SameGraph(a, b) {
				same++
			}
		}
	})
	if same < 100 || equal-same < 1000 {
		t.Errorf("%d pairs are equal, and %d the same", equal, same)
	}
}

func TestPromise54TheSameIsEqualAndEqualTreesAreTheSame(t *testing.T) {
	equal, different := 0, 0
	d := &dice{state: 64}
	check := func(a impl.Graph, b impl.Graph) {
		if impl.SameGraph(a, b) && !impl.EqualDeep(a, b) {
			t.Errorf("EqualDeep(%v, %v) = false", a, b)
		}
		x, okX := impl.UnshareGraph(a)
		y, okY := impl.UnshareGraph(b)
		if !okX || !okY {
			return
		}
		if impl.EqualDeep(a, b) != impl.SameGraph(x, y) {
			t.Errorf("EqualDeep(%v, %v) = %v, of the trees %v and %v", a, b, impl.EqualDeep(a, b), x, y)
		}
		if impl.SameGraph(x, y) {
			equal++
		} else {
			different++
		}
	}
	graphPairs(check)
	manyGraphs(func(g impl.Graph) {
		check(g, shuffled(g, d.order(len(g.Nodes))))
		check(g, withoutUnreached(g))
		if tree, ok := impl.UnshareGraph(g); ok {
			check(tree, d.nearGraph(tree))
		}
	})
	if equal < 1000 || different < 1000 {
		t.Errorf("%d pairs unfold to the same tree, and %d do not", equal, different)
	}
}

func TestPromise55LeastIsLeast(t *testing.T) {
	manyGraphs(func(g impl.Graph) {
		least := impl.LeastGraph(g)
		if !impl.ValidGraph(least) || !impl.EqualDeep(least, g) || len(least.Nodes) > len(impl.ReachOf(g)) || least.Root != 0 {
			t.Errorf("LeastGraph(%v) = %v", g, least)
		}
		for i, class := range impl.ClassesOf(least) {
			if i != class {
				t.Errorf("LeastGraph(%v) = %v, in which %d and %d are equal", g, least, i, class)
			}
		}
		if again := impl.LeastGraph(least); !identical(again, least) {
			t.Errorf("LeastGraph(%v) = %v", least, again)
		}
	})
	for _, c := range brokenGraphs() {
		if least := impl.LeastGraph(c.g); !isZero(least) {
			t.Errorf("%s: LeastGraph(%v) = %v", c.why, c.g, least)
		}
	}
}

// hasEqualTexts reports whether two texts with an equal value are reached.
func hasEqualTexts(g impl.Graph) bool {
	met := map[int]bool{}
	for _, i := range wantReach(g) {
		if n := g.Nodes[i]; n.Kind == impl.NkText {
			if met[n.Value] {
				return true
			}
			met[n.Value] = true
		}
	}
	return false
}

func TestPromise56MergedTextsAreEqual(t *testing.T) {
	merged := 0
	manyGraphs(func(g impl.Graph) {
		m := impl.MergeTexts(g)
		if !impl.ValidGraph(m) || !impl.EqualDeep(m, g) || hasEqualTexts(m) || len(m.Nodes) != len(g.Nodes) {
			t.Errorf("MergeTexts(%v) = %v", g, m)
		}
		if again := impl.MergeTexts(m); !identical(again, m) {
			t.Errorf("MergeTexts(%v) = %v", m, again)
		}
		if hasEqualTexts(g) {
			merged++
		} else if !impl.SameGraph(m, g) {
			t.Errorf("MergeTexts(%v) = %v", g, m)
		}
		// All else is as it was, and shared as it was.
		for i, n := range g.Nodes {
			if m.Nodes[i].Kind != n.Kind || m.Nodes[i].Value != n.Value || len(m.Nodes[i].Kids) != len(n.Kids) {
				t.Errorf("MergeTexts(%v) = %v", g, m)
				break
			}
			for at, k := range n.Kids {
				if g.Nodes[k].Kind != impl.NkText && m.Nodes[i].Kids[at] != k {
					t.Errorf("MergeTexts(%v) = %v", g, m)
				}
			}
		}
	})
	if merged < 300 {
		t.Errorf("only %d graphs have texts that are equal", merged)
	}
	for _, c := range brokenGraphs() {
		if m := impl.MergeTexts(c.g); !isZero(m) {
			t.Errorf("%s: MergeTexts(%v) = %v", c.why, c.g, m)
		}
	}
}

func TestPromise57UnsharedTreesShareNothing(t *testing.T) {
	sizes := make([]int, impl.MaxNodes+1)
	cyclic, great, unshared := 0, 0, 0
	manyGraphs(func(g impl.Graph) {
		tree, ok := impl.UnshareGraph(g)
		size, cycles := impl.TreeSize(g), impl.CyclesOf(g)
		if ok != (len(cycles) == 0 && size <= impl.MaxNodes) {
			t.Errorf("UnshareGraph(%v) = %v, %v", g, tree, ok)
			return
		}
		if !ok {
			if len(cycles) > 0 {
				cyclic++
			} else {
				great++
			}
			if !isZero(tree) {
				t.Errorf("UnshareGraph(%v) = %v, false", g, tree)
			}
			return
		}
		sizes[size]++
		if !impl.ValidGraph(tree) || !impl.EqualDeep(tree, g) || len(impl.SharedOf(tree)) > 0 || len(tree.Nodes) != size || impl.TreeSize(tree) != size {
			t.Errorf("UnshareGraph(%v) = %v", g, tree)
		}
		if !identical(impl.PrunedGraph(tree), tree) {
			t.Errorf("UnshareGraph(%v) = %v, not in the order in which its nodes are met", g, tree)
		}
		if again, ok := impl.UnshareGraph(tree); !ok || !identical(again, tree) {
			t.Errorf("UnshareGraph(%v) = %v", tree, again)
		}
		if !impl.SameGraph(tree, g) {
			unshared++
		}
	})
	if slices.Contains(sizes[1:], 0) || cyclic == 0 || great == 0 || unshared == 0 {
		t.Errorf("trees have the sizes %v; %d graphs have cycles, %d are too great, and %d share something", sizes, cyclic, great, unshared)
	}
	for _, c := range brokenGraphs() {
		if tree, ok := impl.UnshareGraph(c.g); ok || !isZero(tree) {
			t.Errorf("%s: UnshareGraph(%v) = %v, %v", c.why, c.g, tree, ok)
		}
	}
}
