package tests

import (
	"slices"
	"testing"

	"loop.example/graphcode/impl"
)

func number(value int) impl.Node {
	return impl.Node{Kind: impl.NkInt, Value: value}
}

func text(value int) impl.Node {
	return impl.Node{Kind: impl.NkText, Value: value}
}

func tuple(kids ...int) impl.Node {
	return impl.Node{Kind: impl.NkTuple, Kids: kids}
}

func list(kids ...int) impl.Node {
	return impl.Node{Kind: impl.NkList, Kids: kids}
}

func dict(kids ...int) impl.Node {
	return impl.Node{Kind: impl.NkDict, Kids: kids}
}

func object(class int, kids ...int) impl.Node {
	return impl.Node{Kind: impl.NkObj, Value: class, Kids: kids}
}

func graph(root int, nodes ...impl.Node) impl.Graph {
	return impl.Graph{Nodes: nodes, Root: root}
}

// rooted returns the graph g with another Root, and the same nodes.
func rooted(g impl.Graph, root int) impl.Graph {
	return impl.Graph{Nodes: g.Nodes, Root: root}
}

func copied(g impl.Graph) impl.Graph {
	nodes := make([]impl.Node, len(g.Nodes))
	for i, n := range g.Nodes {
		nodes[i] = impl.Node{Kind: n.Kind, Value: n.Value, Kids: slices.Clone(n.Kids)}
	}
	return impl.Graph{Nodes: nodes, Root: g.Root}
}

// identical reports whether graphs are equal node by node; a nil slice is an empty one.
func identical(a impl.Graph, b impl.Graph) bool {
	return a.Root == b.Root && slices.EqualFunc(a.Nodes, b.Nodes, func(x impl.Node, y impl.Node) bool {
		return x.Kind == y.Kind && x.Value == y.Value && slices.Equal(x.Kids, y.Kids)
	})
}

func isZero(g impl.Graph) bool {
	return g.Nodes == nil && g.Root == 0
}

// dice gives the same numbers in each run, so that a test that fails fails again.
type dice struct {
	state uint64
}

// below returns a number in 0..n-1.
func (d *dice) below(n int) int {
	d.state = d.state*6364136223846793005 + 1442695040888963407
	return int((d.state >> 33) % uint64(n))
}

// order returns each index below n once.
func (d *dice) order(n int) []int {
	list := make([]int, n)
	for i := range list {
		list[i] = i
	}
	for i := n - 1; i > 0; i-- {
		j := d.below(i + 1)
		list[i], list[j] = list[j], list[i]
	}
	return list
}

// validGraph returns a graph that is valid as it is made: tuples have no later tuples, and then all are shuffled.
func (d *dice) validGraph() impl.Graph {
	count := 1 + d.below(impl.MaxNodes)
	nodes := make([]impl.Node, count)
	for i := range nodes {
		nodes[i] = d.leaf()
	}
	for i := range nodes {
		d.addKids(nodes, i)
	}
	return shuffled(graph(d.below(count), nodes...), d.order(count))
}

// leaf returns a node of any kind without kids.
func (d *dice) leaf() impl.Node {
	switch kind := d.below(6); kind {
	case impl.NkInt:
		return number(d.below(3) * 499)
	case impl.NkText:
		return text(d.below(4) * 3)
	case impl.NkObj:
		return object(d.below(10))
	default:
		return impl.Node{Kind: kind}
	}
}

// addKids gives kids to the node i, as its kind allows.
func (d *dice) addKids(nodes []impl.Node, i int) {
	most := d.below(impl.MaxKids + 1)
	n := &nodes[i]
	switch n.Kind {
	case impl.NkTuple, impl.NkList:
		for range most {
			k := d.below(len(nodes))
			if n.Kind == impl.NkList || nodes[k].Kind != impl.NkTuple || k < i {
				n.Kids = append(n.Kids, k)
			}
		}
	case impl.NkObj:
		if most > 1 {
			n.Kids = []int{d.below(len(nodes))}
		}
	case impl.NkDict:
		d.addKeys(nodes, i, most/2)
	}
}

// addKeys sets up to most keys, each of another kind or value, in the dictionary i.
func (d *dice) addKeys(nodes []impl.Node, i int, most int) {
	set := map[[2]int]bool{}
	for _, k := range d.order(len(nodes)) {
		key := [2]int{nodes[k].Kind, nodes[k].Value}
		if key[0] > impl.NkText || set[key] || len(set) == most {
			continue
		}
		set[key] = true
		nodes[i].Kids = append(nodes[i].Kids, k, d.below(len(nodes)))
	}
}

// shuffled returns a graph in which the node i of g has the index order[i].
func shuffled(g impl.Graph, order []int) impl.Graph {
	nodes := make([]impl.Node, len(g.Nodes))
	for i, n := range g.Nodes {
		kids := make([]int, len(n.Kids))
		for j, k := range n.Kids {
			kids[j] = order[k]
		}
		nodes[order[i]] = impl.Node{Kind: n.Kind, Value: n.Value, Kids: kids}
	}
	return impl.Graph{Nodes: nodes, Root: order[g.Root]}
}

// anyGraph returns a graph that may be valid or not.
func (d *dice) anyGraph() impl.Graph {
	g := d.validGraph()
	n := &g.Nodes[d.below(len(g.Nodes))]
	switch d.below(6) {
	case 0:
		n.Kind = d.below(8) - 1
	case 1:
		n.Value = []int{-1, 0, 1, 9, 10, 999, 1000}[d.below(7)]
	case 2:
		n.Kids = append(n.Kids, d.below(len(g.Nodes)+2)-1)
	case 3:
		g.Root = d.below(len(g.Nodes)+2) - 1
	case 4:
		n.Kids = nil
		for range d.below(impl.MaxKids + 2) {
			n.Kids = append(n.Kids, d.below(len(g.Nodes)))
		}
	}
	return g
}

// smallGraphs calls try with each graph of two nodes that have up to two kids, valid or not.
func smallGraphs(try func(g impl.Graph)) {
	var nodes []impl.Node
	for _, kids := range [][]int{nil, {0}, {1}, {0, 0}, {0, 1}, {1, 0}, {1, 1}} {
		for kind := impl.NkInt; kind <= impl.NkObj; kind++ {
			for value := range 2 {
				nodes = append(nodes, impl.Node{Kind: kind, Value: value, Kids: kids})
			}
		}
	}
	for _, a := range nodes {
		for _, b := range nodes {
			try(copied(graph(0, a, b)))
			try(copied(graph(1, a, b)))
		}
	}
}

// wideGraphs calls try with a graph for each edge case that the document names.
func wideGraphs(try func(g impl.Graph)) {
	for _, g := range []impl.Graph{
		graph(0, number(999)),
		graph(0, text(9)),
		graph(0, list(0)),
		graph(0, list(0, 0, 0, 0, 0, 0)),
		graph(0, dict(1, 0), number(5)),
		graph(0, object(9, 0)),
		graph(0, list(1, 0, 1, 0), number(4)),
		graph(0, list(1, 1, 2), number(4), number(4)),
		graph(0, list(1, 1, 2), text(4), text(4)),
		graph(1, list(1), number(4)),
		graph(2, list(0), dict(2, 3), text(1), tuple(1)),
		graph(0, tuple(1), list(0)),
		graph(0, tuple(1), dict(2, 0), text(0)),
		graph(0, tuple(1), object(0, 0)),
		graph(1, tuple(2), tuple(0, 0), list(1)),
		graph(2, tuple(), tuple(0, 0), tuple(1, 0, 1)),
		graph(3, list(1), list(0), list(0), dict(4, 2), number(0)),
		graph(0, dict(1, 1, 2, 2, 3, 0), number(1), text(1), number(0)),
		bomb(impl.MaxNodes - 1),
		chain(impl.MaxNodes),
		weighed(),
	} {
		for root := range g.Nodes {
			try(rooted(copied(g), root))
		}
		try(g)
	}
}

// bomb returns a number and levels tuples above it, each of the one below it twice.
func bomb(levels int) impl.Graph {
	nodes := []impl.Node{number(1)}
	for i := range levels {
		nodes = append(nodes, tuple(i, i))
	}
	return graph(levels, nodes...)
}

// chain returns count lists in a ring, each of the next one.
func chain(count int) impl.Graph {
	nodes := make([]impl.Node, count)
	for i := range nodes {
		nodes[i] = list((i + 1) % count)
	}
	return graph(0, nodes...)
}

// weighed returns a graph of which the nodes 7, 8 and 9 unfold to 4999, 5000 and 5001 nodes.
func weighed() impl.Graph {
	return graph(7, text(0), list(0, 0, 0, 0, 0, 0), list(1, 1, 1, 1, 1, 1), list(2, 2, 2, 2, 2, 2), list(3, 3, 3, 3, 3, 3),
		list(2, 1, 1, 1, 1, 0), list(5), list(4, 4, 4, 3, 6), list(7), list(8))
}

// validGraphs calls try with many valid graphs: the edge cases, all small ones, and others.
func validGraphs(try func(g impl.Graph)) {
	wideGraphs(try)
	smallGraphs(func(g impl.Graph) {
		if wantValid(g) {
			try(g)
		}
	})
	d := &dice{state: 1}
	for range 3000 {
		try(d.validGraph())
	}
}

// invalidGraphs calls try with graphs that are not valid.
func invalidGraphs(t *testing.T, try func(g impl.Graph)) {
	t.Helper()
	for _, c := range brokenGraphs() {
		try(c.g)
	}
	d := &dice{state: 2}
	for range 3000 {
		if g := d.anyGraph(); !wantValid(g) {
			try(g)
		}
	}
}
