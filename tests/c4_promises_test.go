package tests

import (
	"slices"
	"testing"

	"loop.example/graphcode/impl"
)

// topMark returns the index of the topmost mark of a stack, -1 if there is none.
func topMark(stack []int) int {
	for at := len(stack) - 1; at >= 0; at-- {
		if stack[at] == -1 {
			return at
		}
	}
	return -1
}

func TestPromise15OrdersTakeAndPushWhatTheyAreToldTo(t *testing.T) {
	done := map[impl.Op]bool{}
	machines(func(m impl.Machine) {
		for _, o := range allOps() {
			next, ok := impl.StepMachine(m, o)
			if !ok {
				continue
			}
			done[o] = true
			takes, pushes := impl.TakesOf(o.Code)
			stay := len(m.Stack) - takes
			if takes == -1 {
				stay = topMark(m.Stack)
			}
			if stay < 0 || stay > len(m.Stack) || len(next.Stack) != stay+pushes || !slices.Equal(next.Stack[:stay], m.Stack[:stay]) {
				t.Errorf("StepMachine(%v, %v) = %v, and TakesOf = %d, %d", m, o, next, takes, pushes)
				continue
			}
			if takes > 0 && slices.Contains(m.Stack[stay:], -1) {
				t.Errorf("%v takes a mark of %v", o, m)
			}
		}
	})
	for _, o := range allOps() {
		if !done[o] {
			t.Errorf("%v is never possible", o)
		}
	}
	// What each order makes of one stack that it is possible on.
	for s, want := range map[string][]int{
		"int=1": {0, -1, 1, 2, 3}, "text=1": {0, -1, 1, 2, 3}, "tuple0": {0, -1, 1, 2, 3}, "list": {0, -1, 1, 2, 3}, "dict": {0, -1, 1, 2, 3}, "new": {0, -1, 1, 2, 3},
		"mark": {0, -1, 1, 2, -1}, "get=0": {0, -1, 1, 2, 0}, "put=0": {0, -1, 1, 2}, "pop": {0, -1, 1}, "popmark": {0}, "tuple": {0, 3},
		"tuple1": {0, -1, 1, 3}, "tuple2": {0, -1, 3},
	} {
		before := machine([]impl.Node{list(), number(1), number(2)}, 0, -1, 1, 2)
		before.Memo[0] = 0
		if next, ok := impl.StepMachine(before, program(s)[0]); !ok || !slices.Equal(next.Stack, want) {
			t.Errorf("StepMachine by %s = %v, %v", s, next, ok)
		}
	}
	// An order that takes some things does not reach over a mark, and one that takes all does not do so without one.
	for _, s := range []string{"int=1 mark int=1 tuple2", "dict int=1 mark int=1 setitem", "list mark append", "new mark state", "mark pop", "int=1 tuple", "list int=1 appends"} {
		ops := program(s)
		if _, count := impl.RunOps(ops); count != len(ops)-1 {
			t.Errorf("RunOps of %s does %d orders", s, count)
		}
	}
}

func TestPromise21WhatIsWrittenIsReadBack(t *testing.T) {
	shared, cyclic, knotted := 0, 0, 0
	written(t, func(g impl.Graph, level int, ops []impl.Op) {
		code, ok := impl.BuiltCode(ops)
		if !ok || !slices.Equal(code, impl.CodeOf(g)) || !slices.Equal(code, wantCode(g)) {
			t.Errorf("BuiltCode of WriteGraph(%v, %d) = %v, %v", g, level, code, ok)
		}
		if len(wantShared(g)) > 0 {
			shared++
		}
		if len(wantCycles(g)) > 0 {
			cyclic++
		}
		if hasTupleOnCycle(g) {
			knotted++
		}
	})
	if shared == 0 || cyclic == 0 || knotted == 0 {
		t.Errorf("%d graphs have shared nodes, %d cycles, and %d tuples on these", shared, cyclic, knotted)
	}
	for _, c := range []struct {
		g    impl.Graph
		code []int
	}{
		{graph(0, number(999)), []int{0, 999, 0}},
		{graph(0, list(1, 1), number(5)), []int{3, 0, 2, 0, 5, 0, 0, 5, 0}},
		{graph(0, list(1, 1), text(5)), []int{3, 0, 2, 1, 5, 0, -1, 1}},
		{graph(0, list(1, 2), text(5), text(5)), []int{3, 0, 2, 1, 5, 0, 1, 5, 0}},
		{graph(0, tuple(1, 1), tuple()), []int{2, 0, 2, 2, 0, 0, -1, 1}},
		{graph(0, list(0)), []int{3, 0, 1, -1, 0}},
		{graph(0, tuple(1), list(0)), []int{2, 0, 1, 3, 0, 1, -1, 0}},
		{graph(1, tuple(1), list(0)), []int{3, 0, 1, 2, 0, 1, -1, 0}},
		{graph(2, text(1), number(2), dict(0, 2, 1, 0)), []int{4, 0, 4, 1, 1, 0, -1, 0, 0, 2, 0, -1, 1}},
		{graph(1, object(3), object(4, 1)), []int{5, 4, 1, -1, 0}},
	} {
		for level := range 2 {
			code, ok := impl.BuiltCode(impl.WriteGraph(c.g, level))
			if !ok || !slices.Equal(code, c.code) {
				t.Errorf("BuiltCode of WriteGraph(%v, %d) = %v, not %v", c.g, level, code, c.code)
			}
		}
	}
}

func TestPromise31KindsTellAllThatCanFail(t *testing.T) {
	stopped, full := 0, 0
	checkable(func(ops []impl.Op) {
		s, count := impl.ShapesOf(ops)
		m, all := impl.RunOps(ops)
		if count != all || count < 0 || !slices.Equal(s.Stack, m.Stack) || !slices.Equal(s.Memo, m.Memo) || s.Done != m.Done || len(s.Kinds) != len(m.Nodes) || len(s.Full) != len(m.Nodes) {
			t.Errorf("ShapesOf(%v) = %v, %d, and RunOps = %v, %d", ops, s, count, m, all)
			return
		}
		for i, n := range m.Nodes {
			if s.Kinds[i] != n.Kind || s.Full[i] != (n.Kind == impl.NkObj && len(n.Kids) == 1) {
				t.Errorf("ShapesOf(%v) = %v, and RunOps = %v", ops, s, m)
			}
			if s.Full[i] {
				full++
			}
		}
		if count < len(ops) {
			stopped++
		}
	})
	if stopped < 100 || full < 100 {
		t.Errorf("%d programs stop, and %d objects have a state", stopped, full)
	}
	for _, ops := range invalidPrograms() {
		_, all := impl.RunOps(ops)
		if s, count := impl.ShapesOf(ops); count != -1 || all != -1 || !isZeroShapes(s) {
			t.Errorf("ShapesOf(%v) = %v, %d", ops, s, count)
		}
	}
}

func TestPromise32TheFirstBadOrderIsTheFirst(t *testing.T) {
	stopped := 0
	checkable(func(ops []impl.Op) {
		_, count := impl.RunOps(ops)
		bad := impl.FirstBad(ops)
		if bad == -1 && count != len(ops) || bad != -1 && (bad != count || bad >= len(ops)) {
			t.Errorf("FirstBad(%v) = %d, and RunOps does %d orders", ops, bad, count)
		}
		if cut := impl.CutOps(ops); impl.FirstBad(cut) != -1 {
			t.Errorf("FirstBad(%v) = %d", cut, impl.FirstBad(cut))
		}
		if bad != -1 {
			stopped++
			if early := impl.FirstBad(ops[:bad+1]); early != bad {
				t.Errorf("FirstBad(%v) = %d", ops[:bad+1], early)
			}
		}
	})
	if stopped < 100 {
		t.Errorf("only %d programs stop", stopped)
	}
	for _, ops := range invalidPrograms() {
		if bad := impl.FirstBad(ops); bad != -2 {
			t.Errorf("FirstBad(%v) = %d", ops, bad)
		}
	}
}

func TestPromise33WholeProgramsBuild(t *testing.T) {
	whole := 0
	checkable(func(ops []impl.Op) {
		_, ok := impl.BuildGraph(ops)
		if impl.IsWhole(ops) != ok {
			t.Errorf("IsWhole(%v) = %v", ops, !ok)
		}
		if !ok {
			return
		}
		whole++
		for count := range len(ops) {
			if impl.IsWhole(ops[:count]) {
				t.Errorf("%v is whole, and so is %v", ops, ops[:count])
			}
		}
	})
	if whole < 500 {
		t.Errorf("only %d programs are whole", whole)
	}
	for _, s := range programsOfNoGraph() {
		if ops := program(s); impl.IsWhole(ops) {
			t.Errorf("%s is whole", s)
		}
	}
	for _, ops := range invalidPrograms() {
		if impl.IsWhole(ops) {
			t.Errorf("%v is whole", ops)
		}
	}
}

func TestPromise34DepthsFollowFromWhatIsTaken(t *testing.T) {
	checkable(func(ops []impl.Op) {
		depths := impl.DepthsOf(ops)
		m, count := impl.RunOps(ops)
		if len(depths) != count || count > 0 && depths[count-1] != len(m.Stack) {
			t.Errorf("DepthsOf(%v) = %v", ops, depths)
			return
		}
		before := 0
		for i, depth := range depths {
			takes, pushes := impl.TakesOf(ops[i].Code)
			if takes >= 0 && depth != before-takes+pushes || takes == -1 && (depth < pushes || depth > before-1+pushes) || takes < -1 {
				t.Errorf("DepthsOf(%v) = %v, wrong by the order %d", ops, depths, i)
			}
			before = depth
		}
	})
	// Orders that take all above a mark leave as many things as were below it.
	for s, want := range map[string][]int{
		"int=1 int=1 mark int=1 int=1 tuple":     {1, 2, 3, 4, 5, 3},
		"int=1 list mark int=1 int=1 appends":    {1, 2, 3, 4, 5, 2},
		"int=1 dict mark int=1 int=1 setitems":   {1, 2, 3, 4, 5, 2},
		"int=1 int=1 mark int=1 int=1 popmark":   {1, 2, 3, 4, 5, 2},
		"mark popmark mark mark tuple popmark":   {1, 0, 1, 2, 2, 0},
		"int=1 mark mark int=1 popmark tuple":    {1, 2, 3, 4, 2, 2},
		"int=1 stop int=1":                       {1, 1},
		"pop":                                    {},
		"int=1 put=0 get=0 pop tuple1 pop pop":   {1, 1, 2, 1, 1, 0},
		"new int=1 state dict int=1 int=1 stop":  {1, 2, 1, 2, 3, 4},
		"dict int=1 int=1 setitem list int=1 ":   {1, 2, 3, 1, 2, 3},
		"list int=1 append text=1 tuple2 tuple0": {1, 2, 1, 2, 1, 2},
	} {
		if depths := impl.DepthsOf(program(s)); !slices.Equal(depths, want) {
			t.Errorf("DepthsOf of %s = %v", s, depths)
		}
	}
	for _, ops := range invalidPrograms() {
		if depths := impl.DepthsOf(ops); depths != nil {
			t.Errorf("DepthsOf(%v) = %v", ops, depths)
		}
	}
}

func TestPromise35MarksAreOpenedAndClosed(t *testing.T) {
	open := 0
	checkable(func(ops []impl.Op) {
		marks := impl.MarksOf(ops)
		m, count := impl.RunOps(ops)
		if len(marks) != count {
			t.Errorf("MarksOf(%v) = %v", ops, marks)
			return
		}
		before := 0
		for i, now := range marks {
			more := 0
			switch ops[i].Code {
			case impl.OcMark:
				more = 1
			case impl.OcTuple, impl.OcAppends, impl.OcSetItems, impl.OcPopMark:
				more = -1
			}
			if now != before+more || now < 0 {
				t.Errorf("MarksOf(%v) = %v, wrong by the order %d", ops, marks, i)
			}
			before = now
		}
		left := len(slices.DeleteFunc(m.Stack, func(thing int) bool { return thing != -1 }))
		if before != left {
			t.Errorf("MarksOf(%v) = %v, and %d are left", ops, marks, left)
		}
		if left > 0 {
			open++
		}
	})
	if open < 100 {
		t.Errorf("marks stay open in only %d programs", open)
	}
	for _, ops := range invalidPrograms() {
		if marks := impl.MarksOf(ops); marks != nil {
			t.Errorf("MarksOf(%v) = %v", ops, marks)
		}
	}
}

func TestPromise36CodesAreInOrder(t *testing.T) {
	for code := -1000; code < 2000; code++ {
		takes, pushes := impl.TakesOf(code)
		isCode := code >= impl.OcInt && code <= impl.OcStop
		switch {
		case isCode != impl.ValidOps([]impl.Op{{Code: code}}):
			t.Errorf("the order %d is valid or not", code)
		case !isCode && (takes != -2 || pushes != -2):
			t.Errorf("TakesOf(%d) = %d, %d", code, takes, pushes)
		case isCode && (takes < -1 || takes > 2 || pushes < 0 || pushes > 1):
			t.Errorf("TakesOf(%d) = %d, %d", code, takes, pushes)
		}
	}
	names := "int text mark tuple tuple0 tuple1 tuple2 list append appends dict setitem setitems new state put get pop popmark stop"
	want := []int{0, 1, 0, 1, 0, 1, -1, 1, 0, 1, 1, 1, 2, 1, 0, 1, 1, 0, -1, 0, 0, 1, 2, 0, -1, 0, 0, 1, 1, 0, 0, 0, 0, 1, 1, 0, -1, 0, 0, 0}
	for i, o := range program(names) {
		if takes, pushes := impl.TakesOf(o.Code); takes != want[2*i] || pushes != want[2*i+1] {
			t.Errorf("TakesOf(%d) = %d, %d", o.Code, takes, pushes)
		}
	}
}

func TestPromise37CutProgramsRunToTheirEnd(t *testing.T) {
	shorter := 0
	checkable(func(ops []impl.Op) {
		cut := impl.CutOps(ops)
		if len(cut) > len(ops) || !slices.Equal(cut, ops[:len(cut)]) {
			t.Errorf("CutOps(%v) = %v", ops, cut)
			return
		}
		whole, all := impl.RunOps(ops)
		m, count := impl.RunOps(cut)
		if count != len(cut) || all != count || !identicalMachines(m, whole) {
			t.Errorf("CutOps(%v) = %v, of which %d are possible", ops, cut, count)
		}
		if again := impl.CutOps(cut); !slices.Equal(again, cut) {
			t.Errorf("CutOps(%v) = %v", cut, again)
		}
		if len(cut) < len(ops) {
			shorter++
		}
	})
	if shorter < 100 {
		t.Errorf("only %d programs are cut", shorter)
	}
	for _, ops := range invalidPrograms() {
		if cut := impl.CutOps(ops); cut != nil {
			t.Errorf("CutOps(%v) = %v", ops, cut)
		}
	}
}

func TestPromise38EachProgramCanBeEnded(t *testing.T) {
	ended, tooLong, whole := 0, 0, 0
	checkable(func(ops []impl.Op) {
		cut := impl.CutOps(ops)
		end, ok := impl.EndOps(ops)
		if !ok {
			tooLong++
			// No more orders are needed to end a program than it has, and one more.
			if end != nil || impl.IsWhole(ops) || len(cut) < 150 {
				t.Errorf("EndOps(%v) = %v, %v", ops, end, ok)
			}
			return
		}
		if all := append(slices.Clone(cut), end...); !impl.IsWhole(all) {
			t.Errorf("EndOps(%v) = %v, and it is not whole then", ops, end)
		}
		if (len(end) == 0) != impl.IsWhole(cut) || impl.IsWhole(ops) && len(end) > 0 {
			t.Errorf("EndOps(%v) = %v", ops, end)
		}
		if again, ok := impl.EndOps(append(slices.Clone(cut), end...)); !ok || len(again) > 0 {
			t.Errorf("EndOps(%v) = %v, and then %v", ops, end, again)
		}
		if len(end) == 0 {
			whole++
		} else {
			ended++
		}
	})
	if ended < 1000 || tooLong == 0 || whole < 100 {
		t.Errorf("%d programs are ended, %d are too long, and %d are whole", ended, tooLong, whole)
	}
	for _, ops := range invalidPrograms() {
		if end, ok := impl.EndOps(ops); ok || end != nil {
			t.Errorf("EndOps(%v) = %v, %v", ops, end, ok)
		}
	}
}
