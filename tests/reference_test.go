package tests

import (
	"slices"

	"loop.example/graphcode/impl"
)

// The functions here say what the document says, in other ways than the program: by tables of ways, and by stacks in the
// place of functions that recur. What a test expects is not taken from the program itself.

// waysOver returns which nodes ways of one step or more lead to from each, over nodes that may be entered alone.
func waysOver(g impl.Graph, mayEnter func(n impl.Node) bool) [][]bool {
	ways := make([][]bool, len(g.Nodes))
	for i, n := range g.Nodes {
		ways[i] = make([]bool, len(g.Nodes))
		for _, k := range n.Kids {
			ways[i][k] = mayEnter(n) && mayEnter(g.Nodes[k])
		}
	}
	for by := range ways {
		for from := range ways {
			for to := range ways {
				ways[from][to] = ways[from][to] || ways[from][by] && ways[by][to]
			}
		}
	}
	return ways
}

func wantValid(g impl.Graph) bool {
	if len(g.Nodes) < 1 || len(g.Nodes) > 12 || g.Root < 0 || g.Root >= len(g.Nodes) {
		return false
	}
	for _, n := range g.Nodes {
		if len(n.Kids) > 6 || slices.ContainsFunc(n.Kids, func(k int) bool { return k < 0 || k >= len(g.Nodes) }) {
			return false
		}
		if n.Kind < 0 || n.Kind > 5 || n.Value < 0 || n.Value > []int{999, 9, 0, 0, 0, 9}[n.Kind] {
			return false
		}
		if len(n.Kids) > []int{0, 0, 6, 6, 6, 1}[n.Kind] || n.Kind == 4 && !wantKeys(g, n) {
			return false
		}
	}
	ways := waysOver(g, func(n impl.Node) bool { return n.Kind == 2 })
	for i := range ways {
		if ways[i][i] {
			return false
		}
	}
	return true
}

func wantKeys(g impl.Graph, n impl.Node) bool {
	if len(n.Kids)%2 == 1 {
		return false
	}
	for i := 0; i < len(n.Kids); i += 2 {
		a := g.Nodes[n.Kids[i]]
		if a.Kind > 1 {
			return false
		}
		for j := 0; j < i; j += 2 {
			b := g.Nodes[n.Kids[j]]
			if a.Kind == b.Kind && a.Value == b.Value {
				return false
			}
		}
	}
	return true
}

// pushed returns a stack with kids on it, the first one on top.
func pushed(stack []int, kids []int) []int {
	for i := len(kids) - 1; i >= 0; i-- {
		stack = append(stack, kids[i])
	}
	return stack
}

func wantReach(g impl.Graph) []int {
	var met []int
	stack := []int{g.Root}
	for len(stack) > 0 {
		i := stack[len(stack)-1]
		stack = stack[:len(stack)-1]
		if !slices.Contains(met, i) {
			met = append(met, i)
			stack = pushed(stack, g.Nodes[i].Kids)
		}
	}
	return met
}

func wantCode(g impl.Graph) []int {
	return wantCodes(g.Nodes, []int{g.Root})
}

// wantCodes returns the code of roots, one after the other.
func wantCodes(nodes []impl.Node, roots []int) []int {
	var code, met []int
	stack := pushed(nil, roots)
	for len(stack) > 0 {
		i := stack[len(stack)-1]
		stack = stack[:len(stack)-1]
		n := nodes[i]
		if at := slices.Index(met, i); at >= 0 {
			code = append(code, -1, at)
			continue
		}
		if n.Kind != 0 {
			met = append(met, i)
		}
		code = append(code, n.Kind, n.Value, len(n.Kids))
		stack = pushed(stack, n.Kids)
	}
	return code
}

func wantShared(g impl.Graph) []int {
	used := []int{g.Root}
	for _, i := range wantReach(g) {
		used = append(used, g.Nodes[i].Kids...)
	}
	var shared []int
	for i, n := range g.Nodes {
		uses := len(slices.DeleteFunc(slices.Clone(used), func(u int) bool { return u != i }))
		if n.Kind != 0 && uses > 1 {
			shared = append(shared, i)
		}
	}
	return shared
}

func wantCycles(g impl.Graph) []int {
	ways := waysOver(g, func(impl.Node) bool { return true })
	var cycles []int
	for i := range g.Nodes {
		if ways[i][i] && (i == g.Root || ways[g.Root][i]) {
			cycles = append(cycles, i)
		}
	}
	return cycles
}

func wantPruned(g impl.Graph) impl.Graph {
	reach := wantReach(g)
	pruned := impl.Graph{}
	for _, i := range reach {
		n := impl.Node{Kind: g.Nodes[i].Kind, Value: g.Nodes[i].Value}
		for _, k := range g.Nodes[i].Kids {
			n.Kids = append(n.Kids, slices.Index(reach, k))
		}
		pruned.Nodes = append(pruned.Nodes, n)
	}
	return pruned
}

// wantTree unfolds the graph, node by node, up to the limit: a tree without end reaches it.
func wantTree(g impl.Graph) int {
	count := 0
	stack := []int{g.Root}
	for len(stack) > 0 && count < 5000 {
		i := stack[len(stack)-1]
		stack = pushed(stack[:len(stack)-1], g.Nodes[i].Kids)
		count++
	}
	return count
}
