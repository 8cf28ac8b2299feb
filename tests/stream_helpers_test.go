package tests

import (
	"slices"
	"sync"

	"loop.example/graphcode/impl"
)

// rootLists returns lists of at most five nodes of a graph: none, the same one five times, some of them twice, and others.
func (d *dice) rootLists(g impl.Graph) [][]int {
	count := len(g.Nodes)
	a, b := d.below(count), d.below(count)
	var any []int
	for range d.below(6) {
		any = append(any, d.below(count))
	}
	return [][]int{nil, {a}, {a, a, a, a, a}, {b, a, b}, any, d.order(count)[:min(count, 5)]}
}

// rootings calls try with many valid graphs, and with roots of each of them.
func rootings(try func(g impl.Graph, roots []int)) {
	d := &dice{state: 81}
	writable(func(g impl.Graph) {
		for _, roots := range d.rootLists(g) {
			try(g, roots)
		}
	})
}

// invalidRoots returns lists that are no roots of a stream of a graph with so many nodes.
func invalidRoots(count int) [][]int {
	all := [][]int{make([]int, 6), make([]int, 7), make([]int, 1000), {0, 0, 0, 0, 0, count}}
	for _, bad := range []int{-1, -2, count, count + 1, 1 << 62, -1 << 63} {
		all = append(all, []int{bad}, []int{0, bad}, []int{bad, 0}, []int{0, 0, 0, 0, bad}, []int{bad, bad})
	}
	return all
}

// edgeStreams returns valid programs of several roots, and some that go on behind their last one.
func edgeStreams() [][]impl.Op {
	var all [][]impl.Op
	for _, s := range []string{
		"int=1 stop int=2 stop",
		"int=1 stop stop",
		"int=1 stop stop int=2 stop",
		"int=1 stop int=2",
		"int=1 stop mark stop int=2 stop",
		"int=1 stop pop int=2 stop",
		"int=1 stop put=0 stop",
		"int=1 stop int=2 int=3 stop",
		"mark stop int=1 stop",
		"stop int=1 stop",
		"int=1 put=0 stop get=0 stop get=0 tuple1 stop",
		"int=1 put=0 stop get=1 stop",
		"list put=0 stop get=0 int=5 append",
		"list put=0 stop get=0 get=0 append",
		"new=3 put=0 stop get=0 get=0 state",
		"list put=0 stop get=0 int=5 append stop get=0 get=0 append stop get=0",
		"list put=0 stop mark get=0 get=0 tuple put=0 stop get=0 stop",
		"dict put=0 stop get=0 int=1 get=0 setitem stop get=0 int=1 int=2 setitem stop",
		"new=1 put=0 stop get=0 int=1 state stop get=0 int=2 state stop",
		"text=7 put=0 stop list put=1 mark get=0 get=0 appends stop get=0 stop",
		"tuple0 stop list stop dict stop new=9 stop text=9 stop int=999 stop",
		"list put=19 stop get=19 stop list stop list mark get=19 get=19 appends stop",
		repeated("int=7 stop", 150),
		repeated("int=999 stop", 150),
		"list put=0 stop " + repeated("get=0 stop", 148) + "get=0",
		"int=1 " + repeated("stop", 299),
		repeated("stop", 300),
		repeated("tuple0 tuple1 stop", 100),
		"int=999 put=0 stop " + repeated("get=0 stop", 100),
		"list put=0 stop " + repeated("get=0 get=0 append stop", 74),
		repeated("int=7", 299) + "stop",
	} {
		all = append(all, program(s))
	}
	return all
}

// anyStream returns a valid program of up to eight roots, of which most orders are possible.
func (d *dice) anyStream() []impl.Op {
	var ops []impl.Op
	m := wantNew()
	for range 1 + d.below(8) {
		for range d.below(40) {
			o := d.anyOp()
			next, ok := wantStep(m, o)
			if ok && !next.Done {
				m = next
				ops = append(ops, o)
			} else if d.below(500) == 0 {
				ops = append(ops, o)
			}
		}
		whole := ended(ops, m)
		for _, o := range whole[len(ops):] {
			m, _ = wantStep(m, o)
		}
		ops = whole
		m.Stack, m.Done = nil, false
	}
	return ops
}

// longStreams has programs of several roots, whole or cut, or with one order left out, put in or changed, and is made once for
// all tests.
var longStreams = sync.OnceValue(func() [][]impl.Op {
	var all [][]impl.Op
	d := &dice{state: 82}
	for range 400 {
		ops := d.anyStream()
		changed, at := slices.Clone(ops), d.below(len(ops))
		switch d.below(3) {
		case 0:
			changed = slices.Delete(changed, at, at+1)
		case 1:
			changed = slices.Insert(changed, at, d.anyOp())
		case 2:
			changed[at] = d.anyOp()
		}
		for _, ops := range [][]impl.Op{ops, ops[:at], changed} {
			if wantOps(ops) {
				all = append(all, ops)
			}
		}
	}
	return all
})

// writtenStreams has programs of several roots of graphs, and is made once for all tests, too.
var writtenStreams = sync.OnceValue(func() [][]impl.Op {
	var all [][]impl.Op
	d := &dice{state: 83}
	for _, g := range knots() {
		for _, roots := range d.rootLists(g) {
			all = append(all, wantMany(g, roots, 0), wantMany(g, roots, 1))
		}
	}
	for range 200 {
		g := d.denseGraph()
		for _, roots := range d.rootLists(g) {
			all = append(all, wantMany(g, roots, d.below(2)))
		}
	}
	return all
})

// streamed calls try with many valid programs, of one root or several, with or without an end.
func streamed(try func(ops []impl.Op)) {
	programs(try)
	for _, ops := range slices.Concat(edgeStreams(), longStreams(), writtenStreams()) {
		try(slices.Clone(ops))
	}
}

// fullStream returns frames of a program that begins with int=5 and an order to stop and goes on with orders to stop that are
// not possible; they have so many bytes without their numbers, of which those behind the orders are of none.
func fullStream(bytes int) []int {
	content := append([]int{0, 5, 19}, slices.Repeat([]int{19}, 298)...)
	content = append(content, slices.Repeat([]int{255}, bytes-len(content))...)
	var list []int
	for frame := range slices.Chunk(content, 200) {
		list = append(list, len(frame))
		list = append(list, frame...)
	}
	return list
}

// streamLists calls try with many lists of at most 2000 bytes: streams, and other frames.
func streamLists(try func(list []int)) {
	frameLists(try)
	tornStreams(try)
}

// tornStreams calls try with many streams, whole and torn and changed.
func tornStreams(try func(list []int)) {
	for _, list := range [][]int{
		{3, 0, 5, 19},
		{1, 0, 1, 5, 1, 19},
		{2, 0, 5, 1, 19},
		{3, 0, 5, 19, 3, 0, 6},
		{3, 0, 5, 19, 3, 0, 6, 19},
		{3, 0, 5, 19, 0, 3, 0, 6, 19},
		{3, 0, 5, 19, 201, 3, 0, 6, 19},
		{3, 0, 5, 19, 1, 20, 3, 0, 6, 19},
		{3, 0, 5, 19, 3, 0, 133, 0, 1, 19},
		{3, 0, 5, 19, 2, 19, 19},
		{1, 19, 3, 0, 5, 19},
		{6, 0, 5, 19, 0, 6, 19},
		{4, 0, 5, 19, 0, 2, 6, 19},
		{3, 0, 5, 2},
		fullStream(301),
		fullStream(999),
		fullStream(1000),
		fullStream(1001),
		fullStream(1990),
		append(fullStream(1000), 200, 19),
		append(fullStream(1000), make([]int, 995)...),
	} {
		try(list)
	}
	d := &dice{state: 84}
	for _, ops := range slices.Concat(edgeStreams(), longStreams(), writtenStreams()) {
		list := wantStream(ops, 1+d.below(1+d.below(200)))
		try(list)
		for range 4 {
			if len(list) > 0 {
				try(list[:d.below(len(list))])
				try(d.changedList(list))
			}
		}
	}
}

// deskLines returns lines of a desk, with their answers where these are the same for all streams.
func deskLines() map[string]string {
	all := map[string]string{"roots": "", "nodes": "", "orders": "", "kind 0": "", "kind 1": "", "kind 9": "", "kind 10": "", "kind 99": "", "kind 149": "",
		"kind 150": "none", "kind 199": "none", "kind 999": "none"}
	for _, s := range []string{
		"", " ", "\n", "help", "root", "rootss", "Roots", "ROOTS", " roots", "roots ", "roots\n", "roots 0", "nodes 0", "node", "nodes\x00", "\xffnodes", "orders ",
		"order", "orders\r", "kind", "kind ", "kind  0", "kind 0 ", " kind 0", "kind\t0", "kind0", "kind\n0", "kind 0\n", "kind 0\r", "Kind 0", "kinds 0", "kind 00",
		"kind 01", "kind 09", "kind 000", "kind 001", "kind 010", "kind 0000", "kind 1000", "kind 9999", "kind 10000", "kind 0999", "kind -1", "kind -0", "kind +0",
		"kind +1", "kind 1_0", "kind 0x1", "kind 1.0", "kind 1e1", "kind one", "kind 0 0", "kind 0,1", "kind 9223372036854775807", "kind 9223372036854775808",
		"kind 18446744073709551616", "kind -9223372036854775808", "kind \u0661", "kind 0\x00", "kind \xff", "0", "1", "999", " 0", "what", "none", "int", "roots nodes", "roots\nnodes",
	} {
		all[s] = "what"
	}
	return all
}
