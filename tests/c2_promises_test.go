package tests

import (
	"math"
	"slices"
	"testing"

	"loop.example/graphcode/impl"
)

func TestPromise11ProgramsCanBeCut(t *testing.T) {
	programs(func(ops []impl.Op) {
		for count := range len(ops) + 1 {
			if !impl.ValidOps(ops[:count]) {
				t.Errorf("ValidOps(%v) = false", ops[:count])
			}
		}
	})
	long := slices.Repeat(program("int=999 text=9 new=9 put=19 get=19"), 61)
	for count := range len(long) + 1 {
		if impl.ValidOps(long[:count]) != (count <= 300) {
			t.Errorf("ValidOps of %d orders = %v", count, count > 300)
		}
	}
}

func TestPromise12NewMachinesAreValid(t *testing.T) {
	for filled := range 2 {
		m := impl.NewMachine(filled)
		if !impl.ValidMachine(m) || len(m.Stack) != 0 || len(m.Nodes) != filled || m.Done || !slices.Equal(m.Memo, memo(make([]int, filled)...)) {
			t.Errorf("NewMachine(%d) = %v", filled, m)
		}
	}
	if n := impl.NewMachine(1).Nodes; n[0].Kind != impl.NkInt || n[0].Value != 0 || len(n[0].Kids) != 0 {
		t.Errorf("NewMachine(1) has the nodes %v", n)
	}
	for _, ops := range [][]impl.Op{nil, {}} {
		if m, count := impl.RunOps(ops); count != 0 || !identicalMachines(m, impl.NewMachine(0)) {
			t.Errorf("RunOps(%v) = %v, %d", ops, m, count)
		}
	}
	for _, filled := range []int{-1, 2, 20, math.MinInt, math.MaxInt} {
		if m := impl.NewMachine(filled); !isZeroMachine(m) {
			t.Errorf("NewMachine(%d) = %v", filled, m)
		}
	}
}

func TestPromise13MachinesCanForget(t *testing.T) {
	forgets := func(m impl.Machine) {
		noMemo, noStack := m, m
		noMemo.Memo, noStack.Stack = memo(), nil
		if !impl.ValidMachine(m) || !impl.ValidMachine(noMemo) || impl.ValidMachine(noStack) != !m.Done {
			t.Errorf("%v is not valid without a memo, or without a stack", m)
		}
		if next, ok := impl.StepMachine(noMemo, impl.Op{Code: impl.OcGet}); ok {
			t.Errorf("StepMachine(%v) got %v", noMemo, next)
		}
		if next, ok := impl.StepMachine(noStack, impl.Op{Code: impl.OcPop}); ok {
			t.Errorf("StepMachine(%v) popped %v", noStack, next)
		}
	}
	machines(forgets)
	for _, ops := range edgePrograms() {
		m, _ := impl.RunOps(ops)
		forgets(m)
	}
}

func TestPromise14OrdersBuild(t *testing.T) {
	// Which of allOps were possible at all.
	done := map[impl.Op]bool{}
	machines(func(m impl.Machine) {
		for _, o := range allOps() {
			next, ok := impl.StepMachine(m, o)
			if !ok {
				continue
			}
			done[o] = true
			if !impl.ValidMachine(next) || len(next.Nodes) < len(m.Nodes) || len(next.Nodes) > len(m.Nodes)+1 {
				t.Errorf("StepMachine(%v, %v) = %v", m, o, next)
			}
			for i, n := range m.Nodes {
				if next.Nodes[i].Kind != n.Kind || next.Nodes[i].Value != n.Value {
					t.Errorf("StepMachine(%v, %v) = %v has another node %d", m, o, next, i)
				}
			}
		}
	})
	for _, o := range allOps() {
		if !done[o] {
			t.Errorf("%v is never possible", o)
		}
	}
}

func TestPromise16MachinesRunStepByStep(t *testing.T) {
	programs(func(ops []impl.Op) {
		m, count := impl.RunOps(ops)
		if len(ops) == 0 || count < len(ops) {
			return
		}
		last := len(ops) - 1
		before, all := impl.RunOps(ops[:last])
		next, ok := impl.StepMachine(before, ops[last])
		if all != last || !ok || !identicalMachines(next, m) {
			t.Errorf("StepMachine(%v, %v) = %v, %v", before, ops[last], next, ok)
		}
	})
}

func TestPromise17WhatIsNotPossibleIsNotDone(t *testing.T) {
	stopped := 0
	programs(func(ops []impl.Op) {
		m, count := impl.RunOps(ops)
		again, all := impl.RunOps(ops[:max(count, 0)])
		if count < 0 || all != count || !identicalMachines(again, m) {
			t.Errorf("RunOps(%v) = %v, %d", ops, m, count)
		}
		if count == len(ops) {
			return
		}
		stopped++
		if next, ok := impl.StepMachine(m, ops[count]); ok || !isZeroMachine(next) {
			t.Errorf("StepMachine(%v, %v) = %v", m, ops[count], next)
		}
	})
	if stopped == 0 {
		t.Errorf("all programs are possible")
	}
}

func TestPromise18GraphsAreWhatIsOnTheStack(t *testing.T) {
	built := 0
	programs(func(ops []impl.Op) {
		m, count := impl.RunOps(ops)
		g, ok := impl.BuildGraph(ops)
		if ok != (count == len(ops) && m.Done) {
			t.Errorf("BuildGraph(%v) = %v, %v", ops, g, ok)
		}
		if !ok {
			return
		}
		built++
		if !slices.Equal(m.Stack, []int{g.Root}) || !identical(g, graph(m.Stack[0], m.Nodes...)) || ops[len(ops)-1].Code != impl.OcStop {
			t.Errorf("BuildGraph(%v) = %v", ops, g)
		}
	})
	if built == 0 {
		t.Errorf("no program builds a graph")
	}
	// Nodes that are not reached are there, too.
	if g, ok := impl.BuildGraph(program("int=1 pop int=2 text=3 tuple1 pop stop")); !ok || !identical(g, graph(1, number(1), number(2), text(3), tuple(2))) {
		t.Errorf("BuildGraph = %v", g)
	}
}

func TestPromise20ProgramsHaveCodes(t *testing.T) {
	valid, others := 0, 0
	programs(func(ops []impl.Op) {
		code, ok := impl.BuiltCode(ops)
		g, built := impl.BuildGraph(ops)
		if ok != built {
			t.Errorf("BuiltCode(%v) = %v, %v", ops, code, ok)
		}
		if !built {
			return
		}
		if !impl.ValidGraph(g) {
			others++
			if len(code) < 3 || !slices.Equal(code, wantCode(g)) {
				t.Errorf("BuiltCode(%v) = %v", ops, code)
			}
			return
		}
		valid++
		if !slices.Equal(code, impl.CodeOf(g)) {
			t.Errorf("BuiltCode(%v) = %v", ops, code)
		}
	})
	if valid == 0 || others == 0 {
		t.Errorf("%d graphs are valid, and %d others", valid, others)
	}
	for s, want := range map[string][]int{
		"int=5 int=6 tuple2 stop":                              {2, 0, 2, 0, 5, 0, 0, 6, 0},
		"list put=0 get=0 append stop":                         {3, 0, 1, -1, 0},
		"text=7 put=0 get=0 tuple2 stop":                       {2, 0, 2, 1, 7, 0, -1, 1},
		"list mark " + repeated("int=1", 7) + "appends stop":   append([]int{3, 0, 7}, slices.Repeat([]int{0, 1, 0}, 7)...),
		"text=1 " + repeated("tuple1", 12) + "stop":            append(slices.Repeat([]int{2, 0, 1}, 12), 1, 1, 0),
		repeated("int=1 pop", 12) + "new=4 text=2 state stop":  {5, 4, 1, 1, 2, 0},
		"dict int=1 int=2 setitem int=1 text=3 setitem stop":   {4, 0, 2, 0, 1, 0, 1, 3, 0},
		"list put=0 mark get=0 tuple append stop":              {3, 0, 1, 2, 0, 1, -1, 0},
		"mark text=1 put=3 get=3 list put=3 get=3 tuple stop":  {2, 0, 4, 1, 1, 0, -1, 1, 3, 0, 0, -1, 2},
		"list put=0 new=1 put=1 get=0 state append get=1 pop ": nil,
	} {
		if code, ok := impl.BuiltCode(program(s)); !slices.Equal(code, want) || ok != (want != nil) {
			t.Errorf("BuiltCode of %s = %v, %v", s, code, ok)
		}
	}
}
