package tests

import (
	"slices"

	"loop.example/graphcode/impl"
)

// always is the depth of graphs that are equal however deep.
const always = 1000

// equality is two graphs, and the greatest depth up to which they are equal.
type equality struct {
	a, b  impl.Graph
	depth int
}

// ring returns objects of these classes in a ring: the state of each is the next one.
func ring(classes ...int) impl.Graph {
	var nodes []impl.Node
	for i, class := range classes {
		nodes = append(nodes, object(class, (i+1)%len(classes)))
	}
	return graph(0, nodes...)
}

// nearRings returns rings of so many objects, where these have no common divisor. They are equal up to the depth long+short-2,
// and not deeper: no such rings that differ are equal any deeper.
func nearRings(long int, short int) equality {
	classes := make([]int, long+short-2)
	for i := range classes {
		classes[i] = i
	}
	// What is as far apart as one of the rings is long has an equal class; just two classes are left.
	for range len(classes) {
		for _, by := range []int{long, short} {
			for i := range max(0, len(classes)-by) {
				least := min(classes[i], classes[i+by])
				classes[i], classes[i+by] = least, least
			}
		}
	}
	for i := range classes {
		classes[i] = min(classes[i], 1)
	}
	return equality{ring(classes[:long]...), ring(classes[:short]...), long + short - 2}
}

// stick returns lists, each of the next one, and the last one of a node.
func stick(lists int, end impl.Node) impl.Graph {
	var nodes []impl.Node
	for i := range lists {
		nodes = append(nodes, list(i+1))
	}
	return graph(0, append(nodes, end)...)
}

// beside returns the nodes of both graphs, with the Root of a.
func beside(a impl.Graph, b impl.Graph) impl.Graph {
	count := len(a.Nodes)
	others := make([]int, len(b.Nodes))
	for i := range others {
		others[i] = count + i
	}
	return graph(a.Root, append(copied(a).Nodes, withOthers(b, others).Nodes...)...)
}

// equalities returns the edge cases that the document names, and others.
func equalities() []equality {
	all := []equality{
		// What differs at the roots.
		{graph(0, list()), graph(0, tuple()), 0},
		{graph(0, list()), graph(0, dict()), 0},
		{graph(0, number(1)), graph(0, number(2)), 0},
		{graph(0, number(1)), graph(0, text(1)), 0},
		{graph(0, text(1)), graph(0, text(2)), 0},
		{graph(0, object(1)), graph(0, object(2)), 0},
		{graph(0, object(1)), graph(0, object(1, 0)), 0},
		{graph(0, list(1), number(1)), graph(0, list(1, 1), number(1)), 0},
		{graph(0, list(1, 1), number(1)), graph(0, tuple(1, 1), number(1)), 0},
		{graph(0, tuple(1), list(0)), graph(1, tuple(1), list(0)), 0},
		// What differs below them.
		{graph(0, list(1), number(1)), graph(0, list(1), number(2)), 1},
		{graph(0, list(1, 2), number(1), number(2)), graph(0, list(2, 1), number(1), number(2)), 1},
		{graph(0, list(1, 1), text(1)), graph(0, list(1, 2), text(1), text(2)), 1},
		{graph(0, list(0)), graph(0, list(1), list()), 1},
		{graph(0, list(0)), graph(0, list(1), tuple(0)), 1},
		{graph(0, list(0, 0)), graph(0, list(0, 1), list(0)), 1},
		{graph(0, list(1), list(2), list()), graph(0, list(1), list(2), dict()), 2},
		{graph(0, list(0)), graph(0, list(1), list(2), tuple(0)), 2},
		{graph(0, object(1, 0)), graph(0, object(1, 1), object(1)), 1},
		// Keys in another order, other keys, and other values.
		{graph(0, dict(1, 2, 2, 1), number(1), number(2)), graph(0, dict(2, 1, 1, 2), number(1), number(2)), 1},
		{graph(0, dict(1, 1), number(1)), graph(0, dict(2, 1), number(1), number(2)), 1},
		{graph(0, dict(1, 1), number(1)), graph(0, dict(2, 1), number(1), text(1)), 1},
		{graph(0, dict(1, 1), number(1)), graph(0, dict(1, 2), number(1), number(2)), 1},
		{graph(0, dict(1, 0), number(1)), graph(0, dict(1, 2), number(1), dict(1, 1)), 2},
		{graph(0, dict(1, 0, 2, 0), number(1), text(1)), graph(0, dict(1, 3, 2, 0), number(1), text(1), dict(1, 0, 2, 3)), always},
		// Equal texts and other equal things, shared or not.
		{graph(0, list(1, 1), text(7)), graph(0, list(1, 2), text(7), text(7)), always},
		{graph(0, list(1, 1), number(7)), graph(0, list(1, 2), number(7), number(7)), always},
		{graph(0, tuple(1, 1), list()), graph(0, tuple(1, 2), list(), list()), always},
		{graph(0, tuple(1, 1), object(3)), graph(0, tuple(1, 2), object(3), object(3)), always},
		{graph(0, number(5)), graph(2, text(5), list(0), number(5)), always},
		// Cycles of different lengths, and ways into them.
		{graph(0, list(0)), chain(2), always},
		{graph(0, list(0)), chain(12), always},
		{chain(2), chain(3), always},
		{chain(11), chain(12), always},
		{graph(0, list(0)), graph(0, list(1), list(1)), always},
		{graph(0, list(1), list(2), list(1)), graph(0, list(1), list(2), list(3), list(4), list(2)), always},
		{graph(0, list(0, 0)), graph(0, list(1, 2), list(2, 1), list(0, 2)), always},
		{graph(0, tuple(1), list(0)), graph(0, tuple(1), list(2), tuple(3), list(2)), always},
		{graph(1, tuple(1), list(0)), graph(0, list(1), tuple(2), list(1)), always},
		{graph(0, object(3, 0)), graph(0, object(3, 1), object(3, 0)), always},
		{ring(1, 2), ring(1, 2, 1, 2), always},
		{ring(1, 2, 3, 1, 2, 3), ring(1, 2, 3, 1, 2, 3, 1, 2, 3), always},
		{ring(1, 2), ring(1, 2, 1), 3},
		{ring(1, 1, 2), ring(1, 1), 2},
		{ring(1, 2), ring(2, 1), 0},
		{beside(ring(1, 2, 1), ring(1)), beside(ring(1, 2, 1), ring(5)), always},
		{nearRings(3, 2).a, nearRings(3, 2).a, always},
		// Trees that are too great to be gone through.
		{bomb(11), bomb(11), always},
		{graph(0, list(0, 0, 0, 0, 0, 0)), graph(1, list(1, 0, 1, 0, 1, 1), list(0, 1, 1, 0, 0, 0)), always},
		{rooted(weighed(), 7), rooted(weighed(), 8), 0},
		{rooted(weighed(), 8), rooted(weighed(), 9), 1},
	}
	for long := 3; long <= impl.MaxNodes; long++ {
		all = append(all, nearRings(long, long-1))
	}
	all = append(all, nearRings(12, 7), nearRings(9, 4), nearRings(7, 5))
	for lists := range impl.MaxNodes {
		all = append(all, equality{stick(lists, text(1)), stick(lists, text(2)), lists}, equality{stick(lists, list()), graph(0, list(0)), lists},
			equality{stick(lists, list(lists)), graph(0, list(0)), always})
	}
	for levels := range impl.MaxNodes - 1 {
		all = append(all, equality{bomb(levels), bomb(11), levels})
	}
	return all
}

// splitGraph returns a graph that is equal to g however deep: some nodes are there twice, and each kid is one of the two.
func (d *dice) splitGraph(g impl.Graph) impl.Graph {
	g = copied(g)
	for range 1 + d.below(4) {
		count := len(g.Nodes)
		if count == impl.MaxNodes {
			break
		}
		i := d.below(count)
		n := g.Nodes[i]
		g.Nodes = append(g.Nodes, impl.Node{Kind: n.Kind, Value: n.Value, Kids: slices.Clone(n.Kids)})
		for _, n := range g.Nodes {
			for at, k := range n.Kids {
				if k == i && d.below(2) == 0 {
					n.Kids[at] = count
				}
			}
		}
		if g.Root == i && d.below(2) == 0 {
			g.Root = count
		}
	}
	return shuffled(g, d.order(len(g.Nodes)))
}

// nearGraph returns a valid graph in which one node is another one than in g, by a kid, its value, or a kid less; or g itself,
// if no such graph is found soon.
func (d *dice) nearGraph(g impl.Graph) impl.Graph {
	for range 50 {
		h := copied(g)
		n := &h.Nodes[d.below(len(h.Nodes))]
		switch at := d.below(impl.MaxKids); {
		case at < len(n.Kids) && d.below(4) > 0:
			n.Kids[at] = d.below(len(h.Nodes))
		case at < len(n.Kids):
			n.Kids = n.Kids[:len(n.Kids)-1]
		default:
			n.Value = d.below(10)
		}
		if wantValid(h) {
			return h
		}
	}
	return g
}

// smallGraph returns a valid graph of few nodes.
func (d *dice) smallGraph(most int) impl.Graph {
	for {
		if g := d.validGraph(); len(g.Nodes) <= most {
			return g
		}
	}
}

// graphPairs calls try with pairs of valid graphs, about half of which are equal however deep.
func graphPairs(try func(a impl.Graph, b impl.Graph)) {
	for _, c := range equalities() {
		try(c.a, c.b)
		try(c.b, c.a)
	}
	d := &dice{state: 61}
	validGraphs(func(g impl.Graph) {
		try(g, d.splitGraph(g))
		try(g, d.nearGraph(d.splitGraph(g)))
		try(g, rooted(g, d.below(len(g.Nodes))))
	})
	for range 3000 {
		g := d.smallGraph(8)
		split := d.splitGraph(g)
		try(d.splitGraph(g), split)
		try(d.splitGraph(g), d.nearGraph(split))
		try(d.smallGraph(3), d.smallGraph(3))
	}
}

// manyGraphs calls try with many valid graphs, with nodes that are equal to each other among them.
func manyGraphs(try func(g impl.Graph)) {
	validGraphs(try)
	for _, g := range knots() {
		try(g)
	}
	for _, c := range equalities() {
		try(c.a)
		try(c.b)
		if len(c.a.Nodes)+len(c.b.Nodes) <= impl.MaxNodes {
			try(beside(c.a, c.b))
		}
	}
	d := &dice{state: 62}
	for range 3000 {
		g := d.smallGraph(9)
		try(d.splitGraph(g))
		try(d.nearGraph(d.splitGraph(g)))
		if h := d.textGraph(g); wantValid(h) {
			try(h)
		}
	}
}

// textGraph returns a graph in which all leaves are texts of few values, so that keys may be equal in it.
func (d *dice) textGraph(g impl.Graph) impl.Graph {
	h := copied(g)
	for i, n := range h.Nodes {
		if len(n.Kids) == 0 {
			h.Nodes[i] = text(d.below(3))
		}
	}
	return h
}
