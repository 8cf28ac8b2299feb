package tests

import (
	"math"
	"slices"
	"sync"

	"loop.example/graphcode/impl"
)

// rules returns rules of these numbers and classes.
func rules(steps int, nodes int, deep int, classes ...int) impl.Rules {
	return impl.Rules{Steps: steps, Nodes: nodes, Deep: deep, Classes: classes}
}

// widest returns the rules that allow all.
func widest() impl.Rules {
	return rules(300, 300, 300, 0, 1, 2, 3, 4, 5, 6, 7, 8, 9)
}

func copiedRules(r impl.Rules) impl.Rules {
	return rules(r.Steps, r.Nodes, r.Deep, slices.Clone(r.Classes)...)
}

// identicalRules reports whether rules are equal in all; a nil slice is an empty one.
func identicalRules(a impl.Rules, b impl.Rules) bool {
	return a.Steps == b.Steps && a.Nodes == b.Nodes && a.Deep == b.Deep && slices.Equal(a.Classes, b.Classes)
}

func isZeroRules(r impl.Rules) bool {
	return r.Steps == 0 && r.Nodes == 0 && r.Deep == 0 && r.Classes == nil
}

// invalidRules returns rules that are not valid for one reason each.
func invalidRules() []impl.Rules {
	var all []impl.Rules
	for _, bad := range []int{-1, 301, 302, math.MinInt, math.MaxInt} {
		all = append(all, rules(bad, 9, 9), rules(9, bad, 9), rules(9, 9, bad), rules(bad, 300, 300, 1, 2), rules(300, bad, 300, 1, 2), rules(300, 300, bad, 1, 2))
	}
	for _, bad := range []int{-1, 10, 11, math.MinInt, math.MaxInt} {
		all = append(all, rules(9, 9, 9, bad), rules(9, 9, 9, 0, bad), rules(9, 9, 9, bad, 9), rules(0, 0, 0, 1, bad, 2))
	}
	return append(all, rules(9, 9, 9, 0, 0), rules(9, 9, 9, 9, 9), rules(9, 9, 9, 1, 2, 1), rules(9, 9, 9, 1, 2, 2), rules(0, 0, 0, 5, 4, 3, 5),
		rules(300, 300, 300, 0, 1, 2, 3, 4, 5, 6, 7, 8, 9, 0), rules(300, 300, 300, 0, 1, 2, 3, 4, 5, 6, 7, 8, 9, 10), rules(9, 9, 9, make([]int, 1000)...))
}

// someClasses returns some of the classes, in any order.
func (d *dice) someClasses() []int {
	return d.order(10)[:d.below(11)]
}

// near returns a valid number that is x, or one less or more, or any other one up to the limit of rules.
func (d *dice) near(x int) int {
	switch d.below(4) {
	case 0:
		return d.below(301)
	case 1:
		return d.below(x + 1)
	}
	return min(max(x+d.below(4)-2, 0), 300)
}

// rulesNear returns valid rules of which most are about as wide as others.
func (d *dice) rulesNear(r impl.Rules) impl.Rules {
	near := rules(d.near(r.Steps), d.near(r.Nodes), d.near(r.Deep), d.someClasses()...)
	if d.below(3) > 0 {
		near.Classes = slices.Clone(r.Classes)
	}
	// Most orders are stopped by one rule alone.
	switch d.below(6) {
	case 0:
		near.Nodes, near.Deep = 300, 300
	case 1:
		near.Steps, near.Deep = 300, 300
	case 2:
		near.Steps, near.Nodes = 300, 300
	case 3:
		near.Steps, near.Nodes, near.Deep = 300, 300, 300
		near.Classes = d.someClasses()
	}
	return near
}

// stricter returns valid rules that are allowed by others.
func (d *dice) stricter(r impl.Rules) impl.Rules {
	classes := slices.Clone(r.Classes)
	slices.Reverse(classes)
	return rules(d.below(r.Steps+1), d.below(r.Nodes+1), d.below(r.Deep+1), classes[:d.below(len(classes)+1)]...)
}

// edgeRules returns valid rules, with the limits among them.
func edgeRules() []impl.Rules {
	all := []impl.Rules{{}, widest(), {Classes: []int{}}, rules(300, 300, 300), rules(0, 0, 0, 0), rules(0, 0, 0, 9, 0), rules(0, 0, 0, 9, 8, 7, 6, 5, 4, 3, 2, 1, 0),
		rules(300, 0, 0), rules(0, 300, 0), rules(0, 0, 300), rules(299, 300, 300, 1), rules(300, 299, 300, 1), rules(300, 300, 299, 1), rules(1, 1, 1, 1)}
	d := &dice{state: 71}
	for range 300 {
		all = append(all, rules(d.near(150), d.near(150), d.near(150), d.someClasses()...), rules(d.below(3), d.below(3), d.below(3), d.order(10)[:d.below(3)]...))
	}
	return all
}

// objectPrograms has programs of many objects, of which all orders are possible, and is made once for all tests.
var objectPrograms = sync.OnceValue(func() [][]impl.Op {
	orders := program(repeated("new=0 new=1 new=9 state state", 3) + "new=2 new=5 list list append append appends mark tuple tuple0 tuple2 dict int=1 setitem put=0 put=1 get=0 get=1 get=1 pop")
	var all [][]impl.Op
	d := &dice{state: 72}
	for range 400 {
		var ops []impl.Op
		m := wantNew()
		for range d.below(80) {
			o := orders[d.below(len(orders))]
			if next, ok := wantStep(m, o); ok {
				m = next
				ops = append(ops, o)
			}
		}
		if d.below(2) == 0 {
			ops = ended(ops, m)
		}
		all = append(all, ops)
	}
	return all
})

// givenObjectPrograms returns programs of objects whose states are given in all ways, of which all orders are possible.
func givenObjectPrograms() [][]impl.Op {
	var all [][]impl.Op
	for _, s := range []string{
		"new=1 stop", "new=1 int=5 state stop", "new=1 new=1 state stop", "new=1 new=2 state stop", "new=2 new=1 state stop",
		"new=1 new=2 new=1 state state stop", "new=2 new=1 new=2 state state stop", "new=1 put=0 get=0 state stop", "new=2 put=0 get=0 state stop",
		"new=1 put=0 new=2 get=0 state state stop", "new=2 put=0 new=1 get=0 state state stop", "new=1 put=0 new=2 put=0 get=0 state stop",
		"new=1 put=0 pop list get=0 int=5 state append stop", "new=1 put=0 pop new=2 put=1 get=0 state get=0 int=1 state stop",
		"new=1 put=3 list get=3 append get=3 text=4 state pop stop", "list new=1 append stop", "list mark new=1 new=2 new=1 appends stop",
		"dict int=1 new=1 setitem stop", "dict mark int=1 new=1 int=2 new=2 setitems stop", "mark new=1 new=2 tuple stop", "new=1 tuple1 stop",
		"new=1 list state stop", "new=1 list new=2 append state stop", "list new=1 list state append stop", "new=1 dict state stop",
		"new=1 mark int=1 popmark int=2 state stop", "new=0 new=1 new=2 new=3 new=4 new=5 new=6 new=7 new=8 new=9 " + repeated("state", 9) + "stop",
		"new=9 new=0 state", "new=1", "new=1 pop", "mark new=1", "mark new=1 int=1 state",
	} {
		all = append(all, program(s))
	}
	return all
}

// bombPrograms returns the programs of all bombs by both levels.
func bombPrograms() [][]impl.Op {
	var all [][]impl.Op
	for levels := range impl.MaxNodes {
		all = append(all, wantProgram(bomb(levels), 0), wantProgram(bomb(levels), 1))
	}
	return all
}

// readable calls try with many valid programs: those of the check by kinds, those of objects, and those of bombs.
func readable(try func(ops []impl.Op)) {
	checkable(try)
	for _, ops := range slices.Concat(givenObjectPrograms(), objectPrograms(), bombPrograms()) {
		try(slices.Clone(ops))
	}
}

// possible calls try with those of the readable programs of which all orders are possible.
func possible(try func(ops []impl.Op)) {
	readable(func(ops []impl.Op) {
		if _, depths, _ := builtBy(ops); len(depths) == len(ops) {
			try(ops)
		}
	})
}

// rulesFor returns valid rules for a program: the widest, the least for its possible orders, and others near these.
func (d *dice) rulesFor(t trace) []impl.Rules {
	least, _ := trace{ops: t.ops[:len(t.depths)], nodes: t.nodes, depths: t.depths}.wantLeastRules()
	all := []impl.Rules{widest(), least}
	for range 4 {
		all = append(all, d.rulesNear(least))
	}
	return all
}

// readings calls try with many valid programs, and with rules for each of them.
func readings(try func(ops []impl.Op, r impl.Rules)) {
	d := &dice{state: 73}
	readable(func(ops []impl.Op) {
		for _, r := range d.rulesFor(traceOf(ops)) {
			try(ops, r)
		}
	})
}
