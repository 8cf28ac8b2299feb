package tests

import (
	"slices"
	"strconv"
	"strings"
	"sync"

	"loop.example/graphcode/impl"
)

// program returns the orders of a text: names with spaces between them, and =Arg behind those that have one.
func program(s string) []impl.Op {
	names := strings.Fields("int text mark tuple tuple0 tuple1 tuple2 list append appends dict setitem setitems new state put get pop popmark stop")
	var ops []impl.Op
	for _, word := range strings.Fields(s) {
		name, arg, _ := strings.Cut(word, "=")
		n, _ := strconv.Atoi(arg)
		code := slices.Index(names, name)
		if code < 0 {
			panic("no order is called " + name)
		}
		ops = append(ops, impl.Op{Code: code, Arg: n})
	}
	return ops
}

// repeated returns a text count times, with spaces between them.
func repeated(s string, count int) string {
	return strings.Repeat(s+" ", count)
}

// machine returns a machine without a memo.
func machine(nodes []impl.Node, stack ...int) impl.Machine {
	return impl.Machine{Nodes: nodes, Stack: stack, Memo: memo()}
}

// memo returns a memo that has these nodes at its first places.
func memo(nodes ...int) []int {
	return append(slices.Clone(nodes), slices.Repeat([]int{-1}, 20-len(nodes))...)
}

func copiedMachine(m impl.Machine) impl.Machine {
	return impl.Machine{Nodes: copied(graph(0, m.Nodes...)).Nodes, Stack: slices.Clone(m.Stack), Memo: slices.Clone(m.Memo), Done: m.Done}
}

// identicalMachines reports whether machines are equal in all; a nil slice is an empty one.
func identicalMachines(a impl.Machine, b impl.Machine) bool {
	return identical(graph(0, a.Nodes...), graph(0, b.Nodes...)) && slices.Equal(a.Stack, b.Stack) && slices.Equal(a.Memo, b.Memo) && a.Done == b.Done
}

func isZeroMachine(m impl.Machine) bool {
	return m.Nodes == nil && m.Stack == nil && m.Memo == nil && !m.Done
}

// allOps returns an order of each code, and further ones of some.
func allOps() []impl.Op {
	return program("int=1 int=2 text=1 mark tuple tuple0 tuple1 tuple2 list append appends dict setitem setitems new=1 state put=0 put=19 get=0 get=19 pop popmark stop")
}

// edgePrograms returns valid programs, with the edge cases that the document names.
func edgePrograms() [][]impl.Op {
	var all [][]impl.Op
	for _, s := range []string{
		"",
		"stop",
		"mark stop",
		"int=999 stop",
		"text=9 stop stop",
		"new=9 put=19 get=19 state stop",
		"int=1 stop int=1",
		"int=1 stop stop",
		"int=1 stop pop",
		"int=1 mark pop",
		"int=1 mark put=0",
		"int=1 mark stop",
		"int=1 mark tuple1",
		"int=1 mark int=1 tuple2",
		"list int=1 mark append",
		"list mark int=1 append",
		"dict int=1 mark setitem",
		"dict mark int=1 setitem",
		"new mark state",
		"mark int=1 state",
		"list mark appends stop",
		"dict mark setitems stop",
		"mark tuple stop",
		"int=5 int=6 tuple2 stop",
		"tuple0 tuple1 tuple1 stop",
		"list put=0 get=0 append stop",
		"list put=0 mark get=0 get=0 get=0 appends stop",
		"list put=0 mark get=0 tuple append stop",
		"dict put=0 int=1 get=0 setitem stop",
		"dict int=1 int=2 setitem int=1 int=3 setitem stop",
		"dict text=1 int=2 setitem int=1 int=3 setitem stop",
		"dict mark int=1 int=2 int=2 int=3 int=1 int=4 setitems stop",
		"dict mark int=1 int=2 int=2 setitems",
		"dict mark list int=2 setitems",
		"dict mark int=1 int=2 list int=2 setitems",
		"dict list int=2 setitem",
		"dict put=0 get=0 int=2 setitem",
		"new int=1 state int=2 state",
		"new put=0 get=0 state get=0 state",
		"int=1 int=2 stop",
		"int=1 text=2 put=3 put=4 pop get=3 tuple2 get=4 pop stop",
		"int=1 put=0 int=2 put=0 get=0 tuple2 tuple1 stop",
		"get=0",
		"int=1 put=1 get=0",
		"mark mark int=1 popmark int=2 tuple stop",
		"popmark",
		"tuple",
		"int=1 tuple",
		"appends",
		"setitems",
		"append",
		"list append",
		"list mark list appends append",
		"int=1 append",
		"dict int=1 append",
		"list int=1 int=2 setitem",
		"list int=1 state",
		"tuple0 mark int=1 appends",
		"list mark int=1 int=2 setitems",
		"mark mark appends",
		"mark mark setitems",
		"state",
		"new state",
		"pop",
		"put=0",
		"tuple1",
		"int=1 tuple2",
		"setitem",
		"dict setitem",
		"dict int=1 setitem",
		"list mark " + repeated("text=1", 20) + "appends stop",
		"list mark int=1 appends mark int=2 int=3 appends int=4 append stop",
		"int=1 pop int=2 stop",
		repeated("tuple0 tuple1", 20) + "popmark",
		repeated("int=7", 300),
		repeated("mark", 300),
		repeated("int=7 put=19 get=19", 100),
		repeated("tuple1", 300),
		"mark " + repeated("int=7", 297) + "tuple stop",
	} {
		all = append(all, program(s))
	}
	return all
}

// smallPrograms calls try with all programs of a beginning and up to two orders, and with all of three orders alone.
func smallPrograms(try func(ops []impl.Op)) {
	beginnings := []string{"", "int=1 put=0", "mark", "list mark int=1", "list put=0 mark", "dict int=1 text=1", "dict mark int=1 text=1",
		"dict put=19 int=1", "new=2 put=0 list", "int=1 int=1", "mark mark int=1", "int=1 stop"}
	for at, s := range beginnings {
		for _, first := range allOps() {
			for _, second := range allOps() {
				ops := append(program(s), first, second)
				try(ops)
				for _, third := range allOps() {
					if at == 0 {
						try(append(slices.Clone(ops), third))
					}
				}
			}
		}
	}
}

// anyOp returns a valid order.
func (d *dice) anyOp() impl.Op {
	code := d.below(20)
	switch code {
	case impl.OcInt:
		return impl.Op{Code: code, Arg: []int{0, 1, 2, 999}[d.below(4)]}
	case impl.OcText:
		return impl.Op{Code: code, Arg: []int{0, 1, 9}[d.below(3)]}
	case impl.OcNew:
		return impl.Op{Code: code, Arg: d.below(10)}
	case impl.OcPut, impl.OcGet:
		return impl.Op{Code: code, Arg: []int{0, 1, 2, 19}[d.below(4)]}
	}
	return impl.Op{Code: code}
}

// anyProgram returns a valid program of which most orders are possible; about half of them are ended.
func (d *dice) anyProgram() []impl.Op {
	var ops []impl.Op
	m := wantNew()
	for range d.below(250) {
		o := d.anyOp()
		next, ok := wantStep(m, o)
		if ok && (!next.Done || d.below(8) == 0) {
			m = next
			ops = append(ops, o)
		} else if d.below(500) == 0 {
			ops = append(ops, o)
		}
	}
	if d.below(2) == 0 {
		return ops
	}
	return ended(ops, m)
}

// ended returns a program with orders behind it that take all things on the stack of its machine together.
func ended(ops []impl.Op, m impl.Machine) []impl.Op {
	for !m.Done {
		o := impl.Op{Code: impl.OcTuple2}
		switch {
		case slices.Contains(m.Stack, -1):
			o.Code = impl.OcTuple
		case len(m.Stack) == 0:
			o.Code = impl.OcTuple0
		case len(m.Stack) == 1:
			o.Code = impl.OcStop
		}
		m, _ = wantStep(m, o)
		ops = append(ops, o)
	}
	return ops
}

// programs calls try with many valid programs: the edge cases, all small ones, and others.
func programs(try func(ops []impl.Op)) {
	for _, ops := range edgePrograms() {
		try(ops)
	}
	smallPrograms(try)
	for _, ops := range longPrograms() {
		try(slices.Clone(ops))
	}
}

// longPrograms is made once for all tests, as the reference machine is slow.
var longPrograms = sync.OnceValue(func() [][]impl.Op {
	var all [][]impl.Op
	d := &dice{state: 21}
	for range 600 {
		if ops := d.anyProgram(); wantOps(ops) {
			all = append(all, ops)
		}
	}
	return all
})

// edgeMachines returns valid machines, some of which no program leads to.
func edgeMachines() []impl.Machine {
	pair := []impl.Node{number(1), text(1), list(0, 1), dict(0, 1), object(3), tuple(2)}
	full := slices.Repeat([]impl.Node{number(1)}, 300)
	all := []impl.Machine{
		{Memo: memo()},
		{Nodes: []impl.Node{number(0)}, Memo: memo(0)},
		{Nodes: pair, Stack: []int{4}, Memo: memo(), Done: true},
		{Nodes: pair, Stack: []int{3}, Memo: memo(0, 1, 2, 3, 4, 5), Done: true},
		{Nodes: pair, Memo: slices.Repeat([]int{3}, 20), Stack: []int{3, 0, -1, 1, 3}},
		machine([]impl.Node{{Kind: impl.NkInt, Value: 999, Kids: []int{0, 0}}}, 0),
		machine([]impl.Node{{Kind: impl.NkText, Value: 999}, {Kind: impl.NkList, Value: 5, Kids: []int{0, 1, 0, 1, 0, 1, 0}}}, 1, 0),
		machine([]impl.Node{{Kind: impl.NkObj, Value: 999, Kids: []int{0}}}, 0, 0),
		machine([]impl.Node{{Kind: impl.NkTuple, Value: 7, Kids: []int{0}}}, 0, -1, 0, 0),
		machine([]impl.Node{dict(1, 1, 1, 2, 2, 1), number(1), number(1)}, 0, 2, 0),
		machine([]impl.Node{dict(1, 1, 3, 3, 2, 2), number(1), number(1), text(1)}, 0, -1, 2, 3, 3, 0),
		machine([]impl.Node{dict(1, 2), {Kind: impl.NkInt, Value: 4, Kids: []int{0}}, number(4)}, 0, 2, 1),
		machine(full, 0),
		machine(full, 0, -1, 0),
		machine(full[:299], 0, -1, 0),
		machine(append(full[:299:299], list()), 299, -1, 0),
		machine(append(full[:299:299], dict()), 299, 0, 0),
		machine(append(full[:299:299], object(0)), 299, 0),
		machine(full, slices.Repeat([]int{0}, 300)...),
		machine(full[:2], slices.Repeat([]int{1}, 299)...),
		machine(full[:2], slices.Repeat([]int{1}, 300)...),
		machine(full[:2], slices.Repeat([]int{-1}, 300)...),
		machine(append(full[:2:2], list()), append(slices.Repeat([]int{2}, 299), -1)...),
		machine(append(full[:2:2], dict()), append(slices.Repeat([]int{2}, 298), 0, 1)...),
		{Nodes: full[:2], Stack: slices.Repeat([]int{1}, 300), Memo: memo(0)},
		{Nodes: full[:2], Stack: slices.Repeat([]int{1}, 299), Memo: memo(0)},
		{Nodes: full, Stack: slices.Repeat([]int{1}, 3), Memo: memo(0)},
	}
	return all
}

// anyMachine returns a valid machine, whether a program leads to it or not.
func (d *dice) anyMachine() impl.Machine {
	m := machine(make([]impl.Node, 1+d.below(8)))
	for i := range m.Nodes {
		m.Nodes[i] = impl.Node{Kind: d.below(6), Value: d.below(3)}
	}
	m.Nodes[0].Kind = d.below(2)
	var keys []int
	for i, n := range m.Nodes {
		if n.Kind <= impl.NkText {
			keys = append(keys, i)
		}
	}
	for i := range m.Nodes {
		n := &m.Nodes[i]
		for range d.below(4) {
			switch {
			case n.Kind == impl.NkDict:
				n.Kids = append(n.Kids, keys[d.below(len(keys))], d.below(len(m.Nodes)))
			case n.Kind != impl.NkObj || len(n.Kids) == 0:
				n.Kids = append(n.Kids, d.below(len(m.Nodes)))
			}
		}
	}
	for range d.below(7) {
		m.Stack = append(m.Stack, max(-1, d.below(len(m.Nodes)+2)-2))
	}
	for range d.below(3) {
		m.Memo[d.below(20)] = d.below(len(m.Nodes))
	}
	m.Done = len(m.Stack) == 1 && m.Stack[0] >= 0 && d.below(2) == 0
	return m
}

// machines calls try with many valid machines.
func machines(try func(m impl.Machine)) {
	for _, m := range edgeMachines() {
		try(m)
	}
	d := &dice{state: 22}
	for range 2000 {
		try(d.anyMachine())
	}
	for _, m := range builtMachines() {
		try(copiedMachine(m))
	}
}

// builtMachines has what programs lead to somewhere on their way, and is made once for all tests, too.
var builtMachines = sync.OnceValue(func() []impl.Machine {
	var all []impl.Machine
	d := &dice{state: 24}
	for _, ops := range longPrograms()[:200] {
		m, _ := wantRun(ops[:d.below(len(ops)+1)])
		all = append(all, m)
	}
	return all
})
