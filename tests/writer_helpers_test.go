package tests

import (
	"fmt"
	"slices"
	"testing"

	"loop.example/graphcode/impl"
)

// knots returns graphs in which tuples are reached again from their kids.
func knots() []impl.Graph {
	return []impl.Graph{
		graph(0, tuple(1), list(0)),
		graph(0, tuple(1, 2), list(0), list(0)),
		graph(0, tuple(2, 1), list(0), list(0)),
		graph(0, tuple(1, 2, 1), list(0), number(5)),
		graph(0, tuple(2, 1, 3), list(0, 3), number(5), text(5)),
		graph(0, tuple(1, 1, 1, 1, 1, 1), list(0, 0, 0, 0, 0, 0)),
		graph(0, tuple(1), dict(2, 0, 3, 0), text(0), number(0)),
		graph(0, tuple(2, 1), dict(2, 0), text(0)),
		graph(0, tuple(1), object(3, 0)),
		graph(0, tuple(1, 1), object(3, 2), tuple(0)),
		graph(0, tuple(1), tuple(2), list(0, 1)),
		graph(0, tuple(1), tuple(2), list(1, 0)),
		graph(0, tuple(1, 2), tuple(2, 3), list(0, 1, 3), list(1, 0, 2)),
		graph(0, tuple(2, 3, 4), tuple(2, 3, 4), list(0, 1), list(0, 1), object(0, 1)),
		graph(2, tuple(1), list(0), dict(3, 0, 4, 1), text(1), number(1)),
		graph(1, tuple(1), list(0)),
		graph(1, tuple(1, 1), list(0, 0)),
	}
}

// braid returns lists of the first one of tuples, each of which has the next one, and the last one all lists. Further kids of
// these are a number: inTuples of them in the first tuples, and inLists in the first lists, up to six kids in each.
func braid(tuples int, lists int, inTuples int, inLists int) impl.Graph {
	last := tuples + lists
	nodes := make([]impl.Node, tuples, last+1)
	for i := range tuples - 1 {
		more := min(inTuples, 5)
		inTuples -= more
		nodes[i] = tuple(append([]int{i + 1}, slices.Repeat([]int{last}, more)...)...)
	}
	nodes[tuples-1] = tuple()
	for i := range lists {
		more := min(inLists, 5)
		inLists -= more
		nodes[tuples-1].Kids = append(nodes[tuples-1].Kids, tuples+i)
		nodes = append(nodes, list(append([]int{0}, slices.Repeat([]int{last}, more)...)...))
	}
	return graph(0, append(nodes, number(1))...)
}

// longGraphs returns graphs of which the programs by both levels are of 300 orders, of 301, and of others near these.
func longGraphs() (just impl.Graph, more impl.Graph, near []impl.Graph) {
	for inLists := range 31 {
		near = append(near, braid(5, 6, 16, inLists), braid(5, 6, 19, inLists), braid(6, 5, 25, min(inLists, 25)))
	}
	return braid(5, 6, 20, 0), braid(6, 5, 25, 1), near
}

// denseGraph returns a valid graph of few numbers and texts, and of many kids; tuples have no earlier tuples.
func (d *dice) denseGraph() impl.Graph {
	count := 2 + d.below(impl.MaxNodes-1)
	nodes := make([]impl.Node, count)
	for i := range nodes {
		nodes[i].Kind = []int{0, 1, 2, 2, 2, 2, 3, 3, 3, 3, 4, 5}[d.below(12)]
	}
	kids := 1 + d.below(impl.MaxKids)
	for i := range nodes {
		n := &nodes[i]
		for range kids {
			k := d.below(count)
			isLeaf := n.Kind <= impl.NkText || n.Kind == impl.NkObj && len(n.Kids) > 0
			if !isLeaf && n.Kind != impl.NkDict && (n.Kind != impl.NkTuple || nodes[k].Kind != impl.NkTuple || k > i) {
				n.Kids = append(n.Kids, k)
			}
		}
		if n.Kind == impl.NkDict {
			d.addKeys(nodes, i, 3)
		}
	}
	return shuffled(graph(d.below(count), nodes...), d.order(count))
}

// writable calls try with many valid graphs, some of which have programs that are too long.
func writable(try func(g impl.Graph)) {
	validGraphs(try)
	for _, g := range knots() {
		try(g)
	}
	just, more, near := longGraphs()
	for _, g := range append(near, just, more) {
		try(g)
	}
	d := &dice{state: 31}
	for range 3000 {
		try(d.denseGraph())
	}
}

// written calls try with the programs of many valid graphs by both levels, and with the graphs.
func written(t *testing.T, try func(g impl.Graph, level int, ops []impl.Op)) {
	t.Helper()
	count := 0
	writable(func(g impl.Graph) {
		for level := range 2 {
			if ops := impl.WriteGraph(g, level); len(ops) > 0 {
				count++
				try(g, level, ops)
			}
		}
	})
	if count < 10000 {
		t.Errorf("only %d programs are written", count)
	}
}

// hasTupleOnCycle reports whether a way from a tuple that is reached leads back to it.
func hasTupleOnCycle(g impl.Graph) bool {
	return slices.ContainsFunc(wantCycles(g), func(i int) bool { return g.Nodes[i].Kind == impl.NkTuple })
}

// countOf returns how many orders of a program are of a code.
func countOf(ops []impl.Op, code int) int {
	count := 0
	for _, o := range ops {
		if o.Code == code {
			count++
		}
	}
	return count
}

// builds reports whether a program builds a graph of this code.
func builds(ops []impl.Op, code []int) bool {
	built, ok := impl.BuiltCode(ops)
	return ok && slices.Equal(built, code)
}

// withoutOrder returns a program without its order i.
func withoutOrder(ops []impl.Op, i int) []impl.Op {
	return slices.Delete(slices.Clone(ops), i, i+1)
}

// putsAndGets calls try with all programs of up to five orders that put and get at two places, with a number on the stack.
func putsAndGets(try func(ops []impl.Op)) {
	orders := program("put=0 put=7 get=0 get=7")
	number := program("int=1")
	for length := range 6 {
		for which := range 1 << (2 * length) {
			ops := slices.Clone(number)
			for at := range length {
				ops = append(ops, orders[which>>(2*at)&3])
			}
			try(ops)
		}
	}
}

// shown returns the orders of a program as one string, which no other program has.
func shown(ops []impl.Op) string {
	return fmt.Sprint(ops)
}
