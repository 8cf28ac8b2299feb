package tests

import (
	"math"
	"slices"
	"testing"

	"loop.example/graphcode/impl"
)

func TestLimitsOfMachines(t *testing.T) {
	want := []int{impl.MaxMemo, 20, impl.MaxOps, 300, impl.MaxBuilt, 300, impl.MaxStack, 300,
		impl.OcInt, 0, impl.OcText, 1, impl.OcMark, 2, impl.OcTuple, 3, impl.OcTuple0, 4, impl.OcTuple1, 5, impl.OcTuple2, 6,
		impl.OcList, 7, impl.OcAppend, 8, impl.OcAppends, 9, impl.OcDict, 10, impl.OcSetItem, 11, impl.OcSetItems, 12,
		impl.OcNew, 13, impl.OcState, 14, impl.OcPut, 15, impl.OcGet, 16, impl.OcPop, 17, impl.OcPopMark, 18, impl.OcStop, 19}
	for i := 0; i < len(want); i += 2 {
		if want[i] != want[i+1] {
			t.Errorf("the constant %d is %d, not %d", i/2, want[i], want[i+1])
		}
	}
}

// invalidPrograms returns programs that are not valid.
func invalidPrograms() [][]impl.Op {
	all := [][]impl.Op{make([]impl.Op, 301), program(repeated("mark", 301))}
	most := []int{999, 9, 0, 0, 0, 0, 0, 0, 0, 0, 0, 0, 0, 9, 0, 19, 19, 0, 0, 0}
	for code, arg := range most {
		for _, bad := range []int{arg + 1, -1, math.MaxInt, math.MinInt} {
			all = append(all, []impl.Op{{Code: code, Arg: bad}}, []impl.Op{{Code: impl.OcInt}, {Code: code, Arg: bad}, {Code: impl.OcStop}})
		}
	}
	for _, code := range []int{-1, 20, 21, math.MaxInt, math.MinInt} {
		all = append(all, []impl.Op{{Code: code}}, []impl.Op{{Code: impl.OcInt}, {Code: impl.OcStop}, {Code: code}})
	}
	return all
}

func TestInvalidPrograms(t *testing.T) {
	for _, ops := range invalidPrograms() {
		if impl.ValidOps(ops) || wantOps(ops) {
			t.Errorf("ValidOps(%v) = true", ops)
		}
		if m, count := impl.RunOps(ops); !isZeroMachine(m) || count != -1 {
			t.Errorf("RunOps(%v) = %v, %d", ops, m, count)
		}
		if g, ok := impl.BuildGraph(ops); !isZero(g) || ok {
			t.Errorf("BuildGraph(%v) = %v, %v", ops, g, ok)
		}
		if code, ok := impl.BuiltCode(ops); code != nil || ok {
			t.Errorf("BuiltCode(%v) = %v, %v", ops, code, ok)
		}
		last := ops[len(ops)-1]
		if wantOp(last) {
			continue
		}
		if m, ok := impl.StepMachine(impl.NewMachine(1), last); !isZeroMachine(m) || ok {
			t.Errorf("StepMachine of %v = %v, %v", last, m, ok)
		}
	}
}

func TestValidPrograms(t *testing.T) {
	programs(func(ops []impl.Op) {
		if !impl.ValidOps(ops) {
			t.Errorf("ValidOps(%v) = false", ops)
		}
	})
	for code, most := range []int{999, 9, 0, 0, 0, 0, 0, 0, 0, 0, 0, 0, 0, 9, 0, 19, 19, 0, 0, 0} {
		for arg := range most + 1 {
			if !impl.ValidOps([]impl.Op{{Code: code, Arg: arg}}) {
				t.Errorf("the order %d of %d is not valid", code, arg)
			}
		}
	}
}

// brokenMachines returns machines that are not valid, by why.
func brokenMachines() map[string]impl.Machine {
	full := slices.Repeat([]impl.Node{number(1)}, 301)
	done := func(m impl.Machine) impl.Machine {
		m.Done = true
		return m
	}
	return map[string]impl.Machine{
		"nothing at all":                  {},
		"no memo":                         {Nodes: full[:1], Stack: []int{0}},
		"a memo of one place less":        {Nodes: full[:1], Memo: memo()[:19]},
		"a memo of one place more":        {Nodes: full[:1], Memo: append(memo(), -1)},
		"a memo of a node too great":      {Nodes: full[:1], Memo: memo(1)},
		"a memo of a node below -1":       {Nodes: full[:1], Memo: memo(0, -2)},
		"a memo of a node, without nodes": {Memo: memo(0)},
		"one node more":                   machine(full),
		"one thing more":                  machine(full[:1], make([]int, 301)...),
		"one mark more":                   machine(full[:1], slices.Repeat([]int{-1}, 301)...),
		"a thing too great":               machine(full[:1], 0, 1),
		"a thing below a mark":            machine(full[:1], -2),
		"a least thing":                   machine(full[:1], math.MinInt),
		"a greatest thing":                machine(full[:1], math.MaxInt),
		"a thing without nodes":           machine(nil, 0),
		"a kind behind all":               machine([]impl.Node{{Kind: 6}}),
		"a kind below all":                machine([]impl.Node{{Kind: -1}}),
		"a number too great":              machine([]impl.Node{number(1000)}),
		"a number below 0":                machine([]impl.Node{number(-1)}),
		"a list with a number below 0":    machine([]impl.Node{{Kind: impl.NkList, Value: -1}}),
		"an object of too great a class":  machine([]impl.Node{object(1000)}),
		"a kid too great":                 machine([]impl.Node{list(1)}),
		"a kid below 0":                   machine([]impl.Node{list(-1)}),
		"a kid of a number":               machine([]impl.Node{{Kind: impl.NkInt, Kids: []int{1}}}),
		"a second state":                  machine([]impl.Node{object(0, 0, 0)}),
		"a state too great":               machine([]impl.Node{object(0, 1)}),
		"a key without a value":           machine([]impl.Node{dict(1), number(1)}),
		"a last key without a value":      machine([]impl.Node{dict(1, 1, 1), number(1)}),
		"a dictionary as a key":           machine([]impl.Node{dict(0, 0)}),
		"a tuple as a key":                machine([]impl.Node{dict(2, 0, 1, 0), tuple(), number(1)}),
		"an object as a key":              machine([]impl.Node{dict(1, 0), object(1)}),
		"a key behind the nodes":          machine([]impl.Node{dict(1, 0)}),
		"a key below the nodes":           machine([]impl.Node{dict(-1, 0)}),
		"a value behind the nodes":        machine([]impl.Node{dict(1, 2), number(1)}),
		"done without a thing":            done(machine(full[:1])),
		"done with two things":            done(machine(full[:1], 0, 0)),
		"done with a mark":                done(machine(full[:1], -1)),
		"done with a mark below":          done(machine(full[:1], -1, 0)),
		"done with a thing too great":     done(machine(full[:1], 1)),
	}
}

func TestInvalidMachines(t *testing.T) {
	for why, m := range brokenMachines() {
		if impl.ValidMachine(m) || wantMachine(m) {
			t.Errorf("%s: ValidMachine(%v) = true", why, m)
		}
		for _, o := range allOps() {
			if next, ok := impl.StepMachine(m, o); ok || !isZeroMachine(next) {
				t.Errorf("%s: StepMachine(%v, %v) = %v, %v", why, m, o, next, ok)
			}
		}
	}
}

func TestValidMachines(t *testing.T) {
	machines(func(m impl.Machine) {
		if !impl.ValidMachine(m) {
			t.Errorf("ValidMachine(%v) = false", m)
		}
	})
	d := &dice{state: 23}
	for range 20000 {
		m := d.anyMachine()
		d.breakMachine(&m)
		if impl.ValidMachine(m) != wantMachine(m) {
			t.Errorf("ValidMachine(%v) = %v", m, !wantMachine(m))
		}
	}
}

// breakMachine changes one thing of a machine, which may be valid then or not.
func (d *dice) breakMachine(m *impl.Machine) {
	n := &m.Nodes[d.below(len(m.Nodes))]
	near := func() int { return d.below(len(m.Nodes)+4) - 2 }
	switch d.below(6) {
	case 0:
		n.Kind = d.below(8) - 1
	case 1:
		n.Value = []int{-1, 0, 999, 1000}[d.below(4)]
	case 2:
		n.Kids = append(n.Kids, near())
	case 3:
		m.Stack = append(m.Stack, near())
	case 4:
		m.Memo[d.below(20)] = near()
	case 5:
		m.Done = true
	}
}

// TestGivenPrograms has what programs build, written by hand.
func TestGivenPrograms(t *testing.T) {
	for _, c := range []struct {
		s     string
		count int
		stack []int
		memo  []int
		done  bool
		nodes []impl.Node
	}{
		{"int=999 stop", 2, []int{0}, nil, true, []impl.Node{number(999)}},
		{"mark int=1 text=2 tuple stop", 5, []int{2}, nil, true, []impl.Node{number(1), text(2), tuple(0, 1)}},
		{"mark tuple", 2, []int{0}, nil, false, []impl.Node{tuple()}},
		{"tuple0 tuple1", 2, []int{1}, nil, false, []impl.Node{tuple(), tuple(0)}},
		{"int=1 int=2 int=3 tuple2", 4, []int{0, 3}, nil, false, []impl.Node{number(1), number(2), number(3), tuple(1, 2)}},
		{"mark int=1 mark int=2 tuple", 5, []int{-1, 0, 2}, nil, false, []impl.Node{number(1), number(2), tuple(1)}},
		{"list int=1 append int=2 append", 5, []int{0}, nil, false, []impl.Node{list(1, 2), number(1), number(2)}},
		{"list int=1 append mark int=2 int=3 appends", 7, []int{0}, nil, false, []impl.Node{list(1, 2, 3), number(1), number(2), number(3)}},
		{"list mark appends", 3, []int{0}, nil, false, []impl.Node{list()}},
		{"list put=0 get=0 append", 4, []int{0}, []int{0}, false, []impl.Node{list(0)}},
		{"dict text=1 int=1 setitem int=1 text=1 setitem", 7, []int{0}, nil, false, []impl.Node{dict(1, 2, 3, 4), text(1), number(1), number(1), text(1)}},
		{"dict int=1 int=2 setitem int=1 int=3 setitem", 7, []int{0}, nil, false, []impl.Node{dict(1, 4), number(1), number(2), number(1), number(3)}},
		{"dict mark int=1 int=2 text=1 int=3 int=1 int=4 setitems", 9, []int{0}, nil, false,
			[]impl.Node{dict(1, 6, 3, 4), number(1), number(2), text(1), number(3), number(1), number(4)}},
		{"dict mark setitems", 3, []int{0}, nil, false, []impl.Node{dict()}},
		{"new=9 int=1 state", 3, []int{0}, nil, false, []impl.Node{object(9, 1), number(1)}},
		{"new=9 put=0 get=0 state", 4, []int{0}, []int{0}, false, []impl.Node{object(9, 0)}},
		{"int=1 put=1 pop get=1 get=1", 5, []int{0, 0}, []int{-1, 0}, false, []impl.Node{number(1)}},
		{"int=1 put=0 int=2 put=0", 4, []int{0, 1}, []int{1}, false, []impl.Node{number(1), number(2)}},
		{"int=1 mark int=2 mark int=3 int=4 popmark", 7, []int{0, -1, 1}, nil, false, []impl.Node{number(1), number(2), number(3), number(4)}},
		{"dict mark int=1 int=2 int=3 setitems", 5, []int{0, -1, 1, 2, 3}, nil, false, []impl.Node{dict(), number(1), number(2), number(3)}},
		{"dict mark int=1 int=2 list int=3 setitems", 6, []int{0, -1, 1, 2, 3, 4}, nil, false, []impl.Node{dict(), number(1), number(2), list(), number(3)}},
		{"new int=1 state int=2 state", 4, []int{0, 2}, nil, false, []impl.Node{object(0, 1), number(1), number(2)}},
		{"int=1 stop stop", 2, []int{0}, nil, true, []impl.Node{number(1)}},
		{"int=1 stop put=0", 2, []int{0}, nil, true, []impl.Node{number(1)}},
		{"int=1 mark put=0", 2, []int{0, -1}, nil, false, []impl.Node{number(1)}},
		{"int=1 put=0 mark get=0", 4, []int{0, -1, 0}, []int{0}, false, []impl.Node{number(1)}},
		{"mark list append", 2, []int{-1, 0}, nil, false, []impl.Node{list()}},
		{"list mark mark appends", 3, []int{0, -1, -1}, nil, false, []impl.Node{list()}},
	} {
		want := impl.Machine{Nodes: c.nodes, Stack: c.stack, Memo: memo(c.memo...), Done: c.done}
		if m, count := impl.RunOps(program(c.s)); count != c.count || !identicalMachines(m, want) {
			t.Errorf("RunOps of %s = %v, %d", c.s, m, count)
		}
	}
}

func TestImpossibleOrders(t *testing.T) {
	for _, s := range []string{
		// No such thing is there.
		"append", "state", "pop", "put=0", "stop", "tuple1", "tuple2", "setitem", "int=1 tuple2", "list append", "new state", "dict setitem", "dict int=1 setitem",
		// There is no mark.
		"tuple", "appends", "setitems", "popmark", "list int=1 appends", "dict int=1 int=1 setitems", "int=1 tuple", "int=1 popmark", "mark popmark popmark",
		// A mark is where a node is needed.
		"mark pop", "mark put=0", "mark stop", "mark tuple1", "mark int=1 tuple2", "int=1 mark tuple2", "mark mark tuple2", "list mark append", "mark int=1 append",
		"mark mark appends", "mark mark int=1 appends", "dict mark int=1 setitem", "dict int=1 mark setitem", "mark int=1 int=1 setitem", "mark mark setitems",
		"mark mark int=1 int=1 setitems", "new mark state", "mark int=1 state", "int=1 mark pop", "int=1 mark stop", "mark int=1 stop",
		// A node is of another kind.
		"int=1 int=1 append", "text=1 int=1 append", "tuple0 int=1 append", "dict int=1 append", "new int=1 append", "tuple0 mark appends", "dict mark int=1 appends",
		"list int=1 int=1 setitem", "new int=1 int=1 setitem", "list mark setitems", "tuple0 mark int=1 int=1 setitems", "list int=1 state", "dict int=1 state", "int=1 int=1 state",
		"list tuple0 state",
		// A key is none, or lacks a value.
		"dict list int=1 setitem", "dict tuple0 int=1 setitem", "dict dict int=1 setitem", "dict new int=1 setitem", "dict mark int=1 setitems",
		"dict mark int=1 int=1 int=2 setitems", "dict mark tuple0 int=1 setitems", "dict mark int=1 int=1 new int=1 setitems",
		// A state is there.
		"new int=1 state int=1 state", "new put=0 get=0 state get=0 state",
		// No node is at the place.
		"get=0", "get=19", "int=1 put=0 get=1", "int=1 put=19 get=0",
		// More than one thing, or the machine is done.
		"int=1 int=1 stop", "int=1 mark int=1 stop", "int=1 stop stop", "int=1 stop int=1", "int=1 stop mark", "list stop pop", "int=1 put=0 stop get=0", "int=1 stop tuple1",
	} {
		ops := program(s)
		last := len(ops) - 1
		m, count := impl.RunOps(ops)
		before, all := impl.RunOps(ops[:last])
		if count != last || all != last || !identicalMachines(m, before) {
			t.Errorf("RunOps of %s = %v, %d", s, m, count)
		}
		if next, ok := impl.StepMachine(m, ops[last]); ok || !isZeroMachine(next) {
			t.Errorf("StepMachine of %s = %v, %v", s, next, ok)
		}
		if g, ok := impl.BuildGraph(ops); ok || !isZero(g) {
			t.Errorf("BuildGraph of %s = %v, %v", s, g, ok)
		}
		if code, ok := impl.BuiltCode(ops); ok || code != nil {
			t.Errorf("BuiltCode of %s = %v, %v", s, code, ok)
		}
	}
}

// TestFullMachines is about machines with as many nodes or things as there may be, and with one less.
func TestFullMachines(t *testing.T) {
	nodes := append(slices.Repeat([]impl.Node{number(1)}, 299), list())
	makes := program("int=1 text=1 tuple0 list dict new=1")
	for _, o := range makes {
		for _, c := range []struct {
			nodes, things int
			ok            bool
		}{{299, 299, true}, {300, 0, false}, {300, 299, false}, {299, 300, false}, {299, 0, true}} {
			m := machine(nodes[:c.nodes], make([]int, c.things)...)
			if next, ok := impl.StepMachine(m, o); ok != c.ok || ok && (len(next.Nodes) != c.nodes+1 || len(next.Stack) != c.things+1) {
				t.Errorf("StepMachine with %d nodes and %d things by %v = %v", c.nodes, c.things, o, ok)
			}
		}
	}
	for _, c := range []struct {
		s      string
		nodes  int
		things []int
		ok     bool
	}{
		{"mark", 300, make([]int, 299), true},
		{"mark", 1, make([]int, 300), false},
		{"get=0", 300, make([]int, 299), true},
		{"get=0", 1, make([]int, 300), false},
		{"tuple1", 299, make([]int, 300), true},
		{"tuple2", 299, make([]int, 300), true},
		{"tuple1", 300, make([]int, 300), false},
		{"tuple2", 300, make([]int, 2), false},
		{"tuple", 299, append(make([]int, 299), -1), true},
		{"tuple", 300, []int{-1, 0}, false},
		{"appends", 300, append(slices.Repeat([]int{299}, 299), -1), true},
		{"append", 300, slices.Repeat([]int{299}, 300), true},
		{"pop", 300, make([]int, 300), true},
		{"put=19", 300, make([]int, 300), true},
		{"popmark", 300, slices.Repeat([]int{-1}, 300), true},
	} {
		m := machine(nodes[:c.nodes], c.things...)
		m.Memo[0] = 0
		o := program(c.s)[0]
		next, ok := impl.StepMachine(m, o)
		if want, wantOK := wantStep(m, o); ok != c.ok || ok != wantOK || !identicalMachines(next, want) {
			t.Errorf("StepMachine with %d nodes and %d things by %s = %v", c.nodes, len(c.things), c.s, ok)
		}
	}
}

func TestStepsAgainstReference(t *testing.T) {
	machines(func(m impl.Machine) {
		before := copiedMachine(m)
		for _, o := range allOps() {
			next, ok := impl.StepMachine(m, o)
			if want, wantOK := wantStep(m, o); ok != wantOK || !identicalMachines(next, want) || !ok && !isZeroMachine(next) {
				t.Errorf("StepMachine(%v, %v) = %v, %v", m, o, next, ok)
			}
		}
		if !identicalMachines(m, before) {
			t.Errorf("an argument has changed: %v, not %v", m, before)
		}
	})
}

func TestProgramsAgainstReference(t *testing.T) {
	programs(func(ops []impl.Op) {
		before := slices.Clone(ops)
		m, count := impl.RunOps(ops)
		if want, wantCount := wantRun(ops); count != wantCount || !identicalMachines(m, want) {
			t.Errorf("RunOps(%v) = %v, %d", ops, m, count)
		}
		g, ok := impl.BuildGraph(ops)
		want, wantOK := wantBuilt(ops)
		if ok != wantOK || !identical(g, want) || !ok && !isZero(g) {
			t.Errorf("BuildGraph(%v) = %v, %v", ops, g, ok)
		}
		var wantList []int
		if wantOK {
			wantList = wantCode(want)
		}
		if code, ok := impl.BuiltCode(ops); ok != wantOK || !slices.Equal(code, wantList) || !ok && code != nil {
			t.Errorf("BuiltCode(%v) = %v, %v", ops, code, ok)
		}
		if !slices.Equal(ops, before) {
			t.Errorf("an argument has changed: %v, not %v", ops, before)
		}
	})
}

// TestFreshMachines writes over all memory of the results, list by list, and looks at their other lists and at the arguments.
func TestFreshMachines(t *testing.T) {
	memory := []int{2, 2, 3, 1, 0, 1}
	m := impl.Machine{Nodes: []impl.Node{number(1), text(1), list(memory[4:]...), dict(memory[4:]...), object(1, memory[:1]...), tuple(memory[:3]...)}, Stack: memory[:1], Memo: memo(0, 1, 2)}
	before := copiedMachine(m)
	for _, o := range allOps() {
		if _, ok := impl.StepMachine(m, o); ok {
			checkFreshMachine(t, func() impl.Machine {
				next, _ := impl.StepMachine(m, o)
				return next
			})
		}
		if !identicalMachines(m, before) {
			t.Fatalf("an argument has changed: %v, not %v", m, before)
		}
	}
	checkFreshMachine(t, func() impl.Machine { return impl.NewMachine(0) })
	checkFreshMachine(t, func() impl.Machine { return impl.NewMachine(1) })
	for _, ops := range edgePrograms() {
		if len(ops) > 100 {
			continue
		}
		checkFreshMachine(t, func() impl.Machine {
			m, _ := impl.RunOps(ops)
			return m
		})
		checkFresh(t, func() impl.Graph {
			g, _ := impl.BuildGraph(ops)
			return g
		})
	}
}

// checkFreshMachine spoils each list of a result, which must not change its other ones or the next result.
func checkFreshMachine(t *testing.T, f func() impl.Machine) {
	t.Helper()
	want := f()
	for i := range want.Nodes {
		m := f()
		spoil(m.Nodes[i].Kids)
		m.Nodes[i].Kids = want.Nodes[i].Kids
		if !identicalMachines(m, want) || !identicalMachines(f(), want) {
			t.Errorf("the kids of the node %d of %v share memory", i, want)
		}
	}
	m := f()
	spoil(m.Stack)
	m.Stack = want.Stack
	if !identicalMachines(m, want) {
		t.Errorf("the stack of %v shares memory", want)
	}
	spoil(m.Memo)
	m.Memo = want.Memo
	if !identicalMachines(m, want) || !identicalMachines(f(), want) {
		t.Errorf("the memo of %v shares memory", want)
	}
}
