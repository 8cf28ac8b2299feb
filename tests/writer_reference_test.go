package tests

import (
	"fmt"
	"slices"
	"strconv"
	"strings"

	"loop.example/graphcode/impl"
)

// The reference writer rewrites words, from the left to the right, until only orders are left: push=3 is for the orders that
// push the node 3, keep=3 for the one that puts it, and finish=3 for those behind the kids of the tuple 3.

// wantFull returns the program of a valid graph, however long.
func wantFull(g impl.Graph, level int) []impl.Op {
	return wantFullOf(g.Nodes, []int{g.Root}, level)
}

// wantFullOf returns the program of roots among the nodes of a valid graph, however long.
func wantFullOf(nodes []impl.Node, roots []int, level int) []impl.Op {
	var orders, words []string
	var kept []int
	for _, i := range roots {
		words = append(words, fmt.Sprint("push=", i), "stop")
	}
	for len(words) > 0 {
		name, arg, _ := strings.Cut(words[0], "=")
		i, _ := strconv.Atoi(arg)
		place := slices.Index(kept, i)
		var instead string
		switch {
		case name == "push" && place >= 0:
			orders = append(orders, fmt.Sprint("get=", place))
		case name == "push":
			instead = wordsOf(nodes[i], i, level)
		case name == "finish":
			instead = lastWordsOf(nodes[i], i, level, place >= 0)
		case name == "keep":
			orders = append(orders, fmt.Sprint("put=", len(kept)))
			kept = append(kept, i)
		default:
			orders = append(orders, words[0])
		}
		words = append(strings.Fields(instead), words[1:]...)
	}
	return program(strings.Join(orders, " "))
}

// wordsOf returns the words that stand for a node i that is not kept.
func wordsOf(n impl.Node, i int, level int) string {
	keep := fmt.Sprintf(" keep=%d ", i)
	switch n.Kind {
	case impl.NkInt:
		return fmt.Sprint("int=", n.Value)
	case impl.NkText:
		return fmt.Sprint("text=", n.Value) + keep
	case impl.NkList:
		return "list" + keep + itemWords(n.Kids, level, 1, "append", "appends")
	case impl.NkDict:
		return "dict" + keep + itemWords(n.Kids, level, 2, "setitem", "setitems")
	case impl.NkObj:
		return fmt.Sprint("new=", n.Value) + keep + itemWords(n.Kids, 0, 1, "state", "")
	}
	if len(n.Kids) == 0 {
		return "tuple0" + keep
	}
	words := pushWords(n.Kids) + fmt.Sprintf("finish=%d", i)
	if level == 1 && len(n.Kids) < 3 {
		return words
	}
	return "mark " + words
}

// lastWordsOf returns the words behind the kids of a tuple i, which may be kept by then.
func lastWordsOf(n impl.Node, i int, level int, kept bool) string {
	short := level == 1 && len(n.Kids) < 3
	switch {
	case kept && short:
		return repeated("pop", len(n.Kids)) + fmt.Sprintf("push=%d", i)
	case kept:
		return fmt.Sprintf("popmark push=%d", i)
	case short:
		return fmt.Sprintf("tuple%d keep=%d", len(n.Kids), i)
	}
	return fmt.Sprintf("tuple keep=%d", i)
}

// pushWords returns the words that stand for nodes, in order.
func pushWords(list []int) string {
	var words string
	for _, i := range list {
		words += fmt.Sprintf("push=%d ", i)
	}
	return words
}

// itemWords returns the words that stand for kids and what puts them into a node, width by width or all of them.
func itemWords(kids []int, level int, width int, one string, all string) string {
	if level == 1 && len(kids) > width {
		return "mark " + pushWords(kids) + all
	}
	var words string
	for item := range slices.Chunk(kids, width) {
		words += pushWords(item) + one + " "
	}
	return words
}

// wantProgram returns the program of a valid graph, or nil if it is too long.
func wantProgram(g impl.Graph, level int) []impl.Op {
	if full := wantFull(g, level); len(full) <= 300 {
		return full
	}
	return nil
}

// wantCopy returns what is built of the program of a valid graph, without what is not reached.
func wantCopy(g impl.Graph) (impl.Graph, bool) {
	built, ok := wantBuilt(wantProgram(g, 0))
	if !ok {
		return impl.Graph{}, false
	}
	return wantPruned(built), true
}

// wantIdle looks behind each order that puts, for the next one of the same place.
func wantIdle(ops []impl.Op) []int {
	var idle []int
	for i, o := range ops {
		if o.Code != impl.OcPut {
			continue
		}
		rest := ops[i+1:]
		next := slices.IndexFunc(rest, func(p impl.Op) bool {
			return p.Arg == o.Arg && (p.Code == impl.OcPut || p.Code == impl.OcGet)
		})
		if next < 0 || rest[next].Code == impl.OcPut {
			idle = append(idle, i)
		}
	}
	return idle
}

// wantPlaces returns the places that a program puts something into, in the order in which it does so first.
func wantPlaces(ops []impl.Op) []int {
	var places []int
	for _, o := range ops {
		if o.Code == impl.OcPut && !slices.Contains(places, o.Arg) {
			places = append(places, o.Arg)
		}
	}
	return places
}

// wantLean returns a lean program, and whether nothing is got before it is put.
func wantLean(ops []impl.Op) ([]impl.Op, bool) {
	for i, o := range ops {
		if o.Code == impl.OcGet && !slices.Contains(ops[:i], impl.Op{Code: impl.OcPut, Arg: o.Arg}) {
			return nil, false
		}
	}
	lean := slices.Clone(ops)
	idle := wantIdle(ops)
	for at := len(idle) - 1; at >= 0; at-- {
		lean = slices.Delete(lean, idle[at], idle[at]+1)
	}
	places := wantPlaces(lean)
	for i, o := range lean {
		if o.Code == impl.OcPut || o.Code == impl.OcGet {
			lean[i].Arg = slices.Index(places, o.Arg)
		}
	}
	return lean, true
}
