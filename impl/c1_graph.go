package impl

import "slices"

// MaxNodes is the largest number of nodes of a graph.
const MaxNodes = 12

// MaxKids is the largest number of kids of a node.
const MaxKids = 6

// MaxInt is the greatest number of a node.
const MaxInt = 999

// MaxWord is the greatest number of a text.
const MaxWord = 9

// MaxClass is the greatest number of a class.
const MaxClass = 9

// MaxTree is the largest number of nodes of a tree that are counted.
const MaxTree = 5000

// NkInt is a kind of node: a number.
const NkInt = 0

// NkText is a kind of node: a text.
const NkText = 1

// NkTuple is a kind of node: a tuple, which does not change.
const NkTuple = 2

// NkList is a kind of node: a list.
const NkList = 3

// NkDict is a kind of node: a dictionary.
const NkDict = 4

// NkObj is a kind of node: an object of a class, with a state or none.
const NkObj = 5

// Node is a node of a graph.
type Node struct {
	Kind  int
	Value int
	Kids  []int
}

// Graph is a graph of objects, and its root.
type Graph struct {
	Nodes []Node
	Root  int
}

// orderedSet is a set that numbers its members from 0 on, as they are added.
// Its zero value is the empty set.
type orderedSet[T comparable] struct {
	numbers map[T]int
	members []T
}

// add reports whether x is a new member.
func (s *orderedSet[T]) add(x T) bool {
	if s.has(x) {
		return false
	}
	if s.numbers == nil {
		s.numbers = map[T]int{}
	}
	s.numbers[x] = len(s.members)
	s.members = append(s.members, x)
	return true
}

// has reports whether x is a member.
func (s *orderedSet[T]) has(x T) bool {
	_, ok := s.numbers[x]
	return ok
}

// numberOf returns the number of the member x.
func (s *orderedSet[T]) numberOf(x T) int {
	return s.numbers[x]
}

// dictKey is all that makes two keys of a dictionary equal.
type dictKey struct {
	kind  int
	value int
}

// keyOf returns what a node is as a key.
func keyOf(n Node) dictKey {
	return dictKey{n.Kind, n.Value}
}

// ValidGraph reports whether a graph is valid.
func ValidGraph(g Graph) bool {
	count := len(g.Nodes)
	if count < 1 || count > MaxNodes || !isUpTo(g.Root, count-1) {
		return false
	}
	for _, n := range g.Nodes {
		if len(n.Kids) > MaxKids || !areNodes(n.Kids, count) || !fitsKind(g.Nodes, n) {
			return false
		}
	}
	return !hasTupleCycle(g.Nodes)
}

// isUpTo reports whether x is in 0..most.
func isUpTo(x int, most int) bool {
	return x >= 0 && x <= most
}

// areNodes reports whether the members of a list are all among count nodes.
func areNodes(list []int, count int) bool {
	for _, i := range list {
		if !isUpTo(i, count-1) {
			return false
		}
	}
	return true
}

// fitsKind reports whether a node of nodes has a value and kids that its kind allows.
func fitsKind(nodes []Node, n Node) bool {
	switch n.Kind {
	case NkInt:
		return isUpTo(n.Value, MaxInt) && len(n.Kids) == 0
	case NkText:
		return isUpTo(n.Value, MaxWord) && len(n.Kids) == 0
	case NkTuple, NkList:
		return n.Value == 0
	case NkDict:
		return n.Value == 0 && arePairs(nodes, n.Kids) && hasDifferentKeys(nodes, n)
	case NkObj:
		return isUpTo(n.Value, MaxClass) && len(n.Kids) <= 1
	}
	return false
}

// arePairs reports whether a list of nodes is keys and their values by turns.
func arePairs(nodes []Node, list []int) bool {
	if len(list)%2 != 0 {
		return false
	}
	for i := 0; i < len(list); i += 2 {
		if kind := nodes[list[i]].Kind; kind != NkInt && kind != NkText {
			return false
		}
	}
	return true
}

// hasDifferentKeys reports whether no two keys of a dictionary are equal.
func hasDifferentKeys(nodes []Node, dict Node) bool {
	var keys orderedSet[dictKey]
	for i := 0; i < len(dict.Kids); i += 2 {
		if !keys.add(keyOf(nodes[dict.Kids[i]])) {
			return false
		}
	}
	return true
}

// hasTupleCycle reports whether a way leads from a tuple over tuples alone back to it.
func hasTupleCycle(nodes []Node) bool {
	isTuple := func(n Node) bool { return n.Kind == NkTuple }
	for i, n := range nodes {
		if isTuple(n) && leadsBack(nodes, i, isTuple) {
			return true
		}
	}
	return false
}

// leadsBack reports whether a way over nodes that may be entered leads from the node i back to it.
func leadsBack(nodes []Node, i int, mayEnter func(Node) bool) bool {
	return slices.Contains(walkFrom(nodes, nodes[i].Kids, mayEnter), i)
}

// walkFrom returns the nodes that walks from starts meet, in the order in which they are met first.
// A node that may not be entered is not met, and no way leads over it.
func walkFrom(nodes []Node, starts []int, mayEnter func(Node) bool) []int {
	var met orderedSet[int]
	var walk func(i int)
	walk = func(i int) {
		if !mayEnter(nodes[i]) || !met.add(i) {
			return
		}
		for _, k := range nodes[i].Kids {
			walk(k)
		}
	}
	for _, i := range starts {
		walk(i)
	}
	return met.members
}

// anyNode lets a walk enter all nodes.
func anyNode(Node) bool {
	return true
}

// ReachOf returns all nodes that are reached from the root.
func ReachOf(g Graph) []int {
	if !ValidGraph(g) {
		return nil
	}
	return reachFrom(g)
}

// reachFrom returns the nodes that are reached in a graph, which may have more nodes and kids than valid ones.
func reachFrom(g Graph) []int {
	return walkFrom(g.Nodes, []int{g.Root}, anyNode)
}

// CodeOf returns the code of a graph.
func CodeOf(g Graph) []int {
	if !ValidGraph(g) {
		return nil
	}
	return codeFrom(g.Nodes, g.Root)
}

// codeFrom returns the code of roots, one after the other, and of their nodes, which may be more and have more kids than those
// of valid graphs. What was met from one root is not met again from later ones.
func codeFrom(nodes []Node, roots ...int) []int {
	var code []int
	var met orderedSet[int]
	var write func(i int)
	write = func(i int) {
		n := nodes[i]
		if n.Kind != NkInt && !met.add(i) {
			code = append(code, -1, met.numberOf(i))
			return
		}
		code = append(code, n.Kind, n.Value, len(n.Kids))
		for _, k := range n.Kids {
			write(k)
		}
	}
	for _, i := range roots {
		write(i)
	}
	return code
}

// SameGraph reports whether graphs are the same.
func SameGraph(a Graph, b Graph) bool {
	return ValidGraph(a) && ValidGraph(b) && slices.Equal(CodeOf(a), CodeOf(b))
}

// SharedOf returns the nodes that are used more than once.
func SharedOf(g Graph) []int {
	if !ValidGraph(g) {
		return nil
	}
	uses := make([]int, len(g.Nodes))
	uses[g.Root]++
	for _, i := range ReachOf(g) {
		for _, k := range g.Nodes[i].Kids {
			uses[k]++
		}
	}
	var shared []int
	for i, n := range g.Nodes {
		if n.Kind != NkInt && uses[i] > 1 {
			shared = append(shared, i)
		}
	}
	return shared
}

// CyclesOf returns the nodes from which ways lead back to them.
func CyclesOf(g Graph) []int {
	var cycles []int
	for _, i := range ReachOf(g) {
		if leadsBack(g.Nodes, i, anyNode) {
			cycles = append(cycles, i)
		}
	}
	slices.Sort(cycles)
	return cycles
}

// PrunedGraph returns a graph of the nodes that are reached.
func PrunedGraph(g Graph) Graph {
	if !ValidGraph(g) {
		return Graph{}
	}
	return pickedGraph(g, ReachOf(g))
}

// pickedGraph returns a graph of picked nodes, in this order.
// Root must be picked, and so must all kids of nodes that are.
func pickedGraph(g Graph, picked []int) Graph {
	var indices orderedSet[int]
	for _, i := range picked {
		indices.add(i)
	}
	nodes := make([]Node, len(picked))
	for at, i := range picked {
		nodes[at] = rewired(g.Nodes[i], indices.numberOf)
	}
	return Graph{Nodes: nodes, Root: indices.numberOf(g.Root)}
}

// rewired returns a copy of a node with other kids, each of which kidFor tells of the kid in whose place it is.
func rewired(n Node, kidFor func(k int) int) Node {
	var kids []int
	for _, k := range n.Kids {
		kids = append(kids, kidFor(k))
	}
	return Node{Kind: n.Kind, Value: n.Value, Kids: kids}
}

// TreeSize returns the number of nodes of a graph that is unfolded to a tree.
func TreeSize(g Graph) int {
	if !ValidGraph(g) {
		return -1
	}
	if len(CyclesOf(g)) > 0 {
		return MaxTree
	}
	// A size is kept, as a node may be met as often as the tree has nodes.
	sizes := make([]int, len(g.Nodes))
	var size func(i int) int
	size = func(i int) int {
		if sizes[i] == 0 {
			total := 1
			for _, k := range g.Nodes[i].Kids {
				total = min(total+size(k), MaxTree)
			}
			sizes[i] = total
		}
		return sizes[i]
	}
	return size(g.Root)
}

// RenumberGraph returns a graph with new indices for its nodes.
func RenumberGraph(g Graph, order []int) Graph {
	if !ValidGraph(g) || !isOrder(order, len(g.Nodes)) {
		return Graph{}
	}
	picked := make([]int, len(order))
	for i, at := range order {
		picked[at] = i
	}
	return pickedGraph(g, picked)
}

// isOrder reports whether a list has each of count indices once.
func isOrder(list []int, count int) bool {
	return len(list) == count && areDifferent(list, count-1)
}

// areDifferent reports whether the members of a list are all in 0..most, and no two of them are equal.
func areDifferent(list []int, most int) bool {
	var met orderedSet[int]
	for _, x := range list {
		if !isUpTo(x, most) || !met.add(x) {
			return false
		}
	}
	return true
}
