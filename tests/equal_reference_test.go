package tests

import (
	"slices"

	"loop.example/graphcode/impl"
)

// The reference of equality goes from the roots to their kids, by sets of pairs of nodes that must be alike, and has no classes.

// pairOf is a node of a graph and one of another graph.
type pairOf struct {
	a, b int
}

// areLike reports whether two nodes have an equal kind and value, and as many kids.
func areLike(a impl.Node, b impl.Node) bool {
	return a.Kind == b.Kind && a.Value == b.Value && len(a.Kids) == len(b.Kids)
}

// wantEqualTo goes down as many levels as the depth, each a set of pairs.
func wantEqualTo(a impl.Graph, b impl.Graph, depth int) bool {
	level := map[pairOf]bool{{a.Root, b.Root}: true}
	for range depth {
		next := map[pairOf]bool{}
		for p := range level {
			if !areLike(a.Nodes[p.a], b.Nodes[p.b]) {
				return false
			}
			for at, k := range a.Nodes[p.a].Kids {
				next[pairOf{k, b.Nodes[p.b].Kids[at]}] = true
			}
		}
		level = next
	}
	return true
}

// wantEqualDeep goes on until there are no pairs that it has not seen.
func wantEqualDeep(a impl.Graph, b impl.Graph) bool {
	pairs := []pairOf{{a.Root, b.Root}}
	for at := 0; at < len(pairs); at++ {
		x, y := a.Nodes[pairs[at].a], b.Nodes[pairs[at].b]
		if !areLike(x, y) {
			return false
		}
		for i, k := range x.Kids {
			if p := (pairOf{k, y.Kids[i]}); !slices.Contains(pairs, p) {
				pairs = append(pairs, p)
			}
		}
	}
	return true
}

func wantClasses(g impl.Graph) []int {
	var classes []int
	for i := range g.Nodes {
		j := 0
		for !wantEqualDeep(rooted(g, i), rooted(g, j)) {
			j++
		}
		classes = append(classes, j)
	}
	return classes
}

// withOthers returns the graph g with the node others[i] in the place of the node i, as a kid and as Root.
func withOthers(g impl.Graph, others []int) impl.Graph {
	h := copied(g)
	h.Root = others[g.Root]
	for _, n := range h.Nodes {
		for at := range n.Kids {
			n.Kids[at] = others[n.Kids[at]]
		}
	}
	return h
}

func wantLeast(g impl.Graph) impl.Graph {
	return wantPruned(withOthers(g, wantClasses(g)))
}

func wantMerged(g impl.Graph) impl.Graph {
	first := map[int]int{}
	others := make([]int, len(g.Nodes))
	for i := len(g.Nodes) - 1; i >= 0; i-- {
		if g.Nodes[i].Kind == impl.NkText {
			first[g.Nodes[i].Value] = i
		}
	}
	for i, n := range g.Nodes {
		others[i] = i
		if n.Kind == impl.NkText {
			others[i] = first[n.Value]
		}
	}
	return withOthers(g, others)
}

// wantUnshared unfolds the graph by a stack of nodes and of those of the tree that have them, up to the limit.
func wantUnshared(g impl.Graph) (impl.Graph, bool) {
	type branch struct{ node, above int }
	var tree []impl.Node
	stack := []branch{{g.Root, -1}}
	for len(stack) > 0 {
		last := stack[len(stack)-1]
		stack = stack[:len(stack)-1]
		if len(tree) == 12 {
			return impl.Graph{}, false
		}
		if last.above >= 0 {
			tree[last.above].Kids = append(tree[last.above].Kids, len(tree))
		}
		n := g.Nodes[last.node]
		for at := len(n.Kids) - 1; at >= 0; at-- {
			stack = append(stack, branch{n.Kids[at], len(tree)})
		}
		tree = append(tree, impl.Node{Kind: n.Kind, Value: n.Value})
	}
	return graph(0, tree...), true
}

func wantShallow(g impl.Graph) impl.Graph {
	if len(g.Nodes) == 12 {
		return impl.Graph{}
	}
	h, again := copied(g), copied(g)
	return graph(len(g.Nodes), append(h.Nodes, again.Nodes[g.Root])...)
}
