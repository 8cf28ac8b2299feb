package tests

import (
	"slices"
	"testing"

	"loop.example/graphcode/impl"
)

func TestPromise58RulesCanBeStricter(t *testing.T) {
	for _, r := range edgeRules() {
		if !impl.ValidRules(r) {
			t.Errorf("ValidRules(%v) = false", r)
		}
		for _, stricter := range []impl.Rules{rules(r.Steps, r.Nodes, r.Deep), rules(0, 0, 0, r.Classes...), rules(0, r.Nodes, r.Deep, r.Classes...),
			rules(r.Steps, 0, r.Deep, r.Classes...), rules(r.Steps, r.Nodes, 0, r.Classes...), rules(0, 0, 0)} {
			if !impl.ValidRules(stricter) || !impl.RulesAllow(r, stricter) {
				t.Errorf("ValidRules(%v) = true, but not of %v", r, stricter)
			}
		}
		for at := range r.Classes {
			if less := slices.Delete(slices.Clone(r.Classes), at, at+1); !impl.ValidRules(rules(r.Steps, r.Nodes, r.Deep, less...)) {
				t.Errorf("%v is not valid without its class %d", r, at)
			}
		}
		// What is not valid is not made so by being stricter elsewhere.
		for _, bad := range []impl.Rules{rules(301, r.Nodes, r.Deep), rules(r.Steps, 301, r.Deep), rules(r.Steps, r.Nodes, 301), rules(-1, r.Nodes, r.Deep),
			rules(r.Steps, -1, r.Deep), rules(r.Steps, r.Nodes, -1), rules(0, 0, 0, append(slices.Clone(r.Classes), 10)...), rules(0, 0, 0, append(slices.Clone(r.Classes), -1)...),
			rules(0, 0, 0, append([]int{7}, append(slices.Clone(r.Classes), 7)...)...)} {
			if impl.ValidRules(bad) {
				t.Errorf("ValidRules(%v) = true", bad)
			}
		}
	}
	// The limits, and one more of each.
	for _, c := range []struct {
		r  impl.Rules
		ok bool
	}{
		{rules(0, 0, 0), true}, {rules(300, 300, 300), true}, {widest(), true}, {rules(301, 300, 300), false}, {rules(300, 301, 300), false}, {rules(300, 300, 301), false},
		{rules(-1, 0, 0), false}, {rules(0, -1, 0), false}, {rules(0, 0, -1), false}, {rules(0, 0, 0, 0), true}, {rules(0, 0, 0, 9), true}, {rules(0, 0, 0, 10), false},
		{rules(0, 0, 0, -1), false}, {rules(0, 0, 0, 5, 5), false}, {rules(0, 0, 0, 5, 6, 5), false}, {rules(0, 0, 0, 9, 3, 0), true},
	} {
		if impl.ValidRules(c.r) != c.ok {
			t.Errorf("ValidRules(%v) = %v", c.r, !c.ok)
		}
	}
}

func TestPromise59WideRulesAllowAllThatIsPossible(t *testing.T) {
	stopped, whole, open := 0, 0, 0
	readings(func(ops []impl.Op, r impl.Rules) {
		_, possible := impl.RunOps(ops)
		if count, _ := impl.SafeRun(ops, r); count > possible || count < 0 {
			t.Errorf("SafeRun(%v, %v) does %d orders, and RunOps %d", ops, r, count, possible)
		}
		count, why := impl.SafeRun(ops, widest())
		if count != possible {
			t.Errorf("SafeRun(%v) by the widest rules does %d orders, and RunOps %d", ops, count, possible)
		}
		_, built := impl.BuildGraph(ops)
		switch {
		case possible < len(ops):
			stopped++
			if why != impl.ReBad {
				t.Errorf("SafeRun(%v) = %d, %d by the widest rules", ops, count, why)
			}
		case built:
			whole++
			if why != impl.ReNone {
				t.Errorf("SafeRun(%v) = %d, %d by the widest rules", ops, count, why)
			}
		default:
			open++
			if why != impl.ReOpen {
				t.Errorf("SafeRun(%v) = %d, %d by the widest rules", ops, count, why)
			}
		}
	})
	if stopped < 1000 || whole < 1000 || open < 1000 {
		t.Errorf("%d programs stop, %d are whole, and %d are open", stopped, whole, open)
	}
	for _, ops := range invalidPrograms() {
		if count, why := impl.SafeRun(ops, widest()); count != -1 || why != -1 {
			t.Errorf("SafeRun(%v) = %d, %d", ops, count, why)
		}
	}
}

func TestPromise60KeptRulesAreKept(t *testing.T) {
	justKept := 0
	readings(func(ops []impl.Op, r impl.Rules) {
		count, why := impl.SafeRun(ops, r)
		if count < 0 || count > len(ops) || (count == len(ops)) != (why == impl.ReNone || why == impl.ReOpen) {
			t.Fatalf("SafeRun(%v, %v) = %d, %d", ops, r, count, why)
		}
		least, ok := impl.LeastRules(ops[:count])
		if !ok || !impl.RulesAllow(r, least) {
			t.Errorf("SafeRun(%v, %v) = %d, %d, and LeastRules of that = %v", ops, r, count, why, least)
		}
		// The next order is not done only if it is not within the rules, and for the reason that is told.
		if count == len(ops) {
			return
		}
		more, ok := impl.LeastRules(ops[:count+1])
		forbidden := !impl.RulesAllow(rules(300, 300, 300, r.Classes...), more)
		is := []bool{impl.ReBad: !ok, impl.ReSteps: more.Steps > r.Steps, impl.ReClass: forbidden, impl.ReNodes: more.Nodes > r.Nodes, impl.ReDeep: more.Deep > r.Deep}
		if why != slices.Index(is, true) {
			t.Errorf("SafeRun(%v, %v) = %d, %d, and LeastRules of one order more = %v, %v", ops, r, count, why, more, ok)
		}
		if identicalRules(r, least) {
			justKept++
		}
	})
	if justKept < 100 {
		t.Errorf("only %d rules are just kept", justKept)
	}
	// No rules are kept that are none.
	for _, r := range invalidRules() {
		if count, why := impl.SafeRun(program("int=1 stop"), r); count != -1 || why != -1 {
			t.Errorf("SafeRun by %v = %d, %d", r, count, why)
		}
	}
}

func TestPromise61WiderRulesDoMore(t *testing.T) {
	more, less := 0, 0
	d := &dice{state: 75}
	readings(func(ops []impl.Op, r impl.Rules) {
		count, _ := impl.SafeRun(ops, r)
		stricter := d.stricter(r)
		if !impl.RulesAllow(r, stricter) {
			t.Errorf("RulesAllow(%v, %v) = false", r, stricter)
		}
		fewer, _ := impl.SafeRun(ops, stricter)
		if fewer > count {
			t.Errorf("SafeRun(%v, %v) does %d orders, and %d by %v", ops, r, count, fewer, stricter)
		}
		if fewer < count {
			less++
		}
		for _, wider := range []impl.Rules{rules(min(r.Steps+1, 300), r.Nodes, r.Deep, r.Classes...), rules(r.Steps, min(r.Nodes+1, 300), r.Deep, r.Classes...),
			rules(r.Steps, r.Nodes, min(r.Deep+1, 300), r.Classes...), rules(r.Steps, r.Nodes, r.Deep, widest().Classes...)} {
			most, why := impl.SafeRun(ops, wider)
			if !impl.RulesAllow(wider, r) || most < count || most > wider.Steps {
				t.Errorf("SafeRun(%v, %v) does %d orders, and %d by %v", ops, r, count, most, wider)
			}
			if most > count && why != impl.ReBad {
				more++
			}
		}
	})
	if more < 1000 || less < 1000 {
		t.Errorf("%d wider rules do more, and %d stricter ones less", more, less)
	}
	// The order of classes does not matter.
	ops := program("new=1 new=2 state new=3 state stop")
	for _, r := range []impl.Rules{rules(9, 9, 9, 1, 2, 3), rules(9, 9, 9, 3, 2, 1), rules(9, 9, 9, 2, 9, 3, 0, 1)} {
		if count, _ := impl.SafeRun(ops, r); count != 4 {
			t.Errorf("SafeRun(%v, %v) does %d orders", ops, r, count)
		}
	}
}

func TestPromise62ClassesAreThoseOfNewObjects(t *testing.T) {
	objects, several := 0, 0
	readable(func(ops []impl.Op) {
		classes := impl.ClassesIn(ops)
		var has [impl.MaxClass + 1]bool
		for i, class := range classes {
			if class < 0 || class > impl.MaxClass || i > 0 && classes[i-1] >= class {
				t.Fatalf("ClassesIn(%v) = %v", ops, classes)
			}
			has[class] = true
		}
		if len(classes) > 1 {
			several++
		}
		for class, is := range has {
			if is != slices.Contains(ops, impl.Op{Code: impl.OcNew, Arg: class}) {
				t.Errorf("ClassesIn(%v) = %v", ops, classes)
			}
		}
		g, _ := impl.BuildGraph(ops)
		for _, n := range g.Nodes {
			if n.Kind == impl.NkObj {
				objects++
				if !has[n.Value] {
					t.Errorf("ClassesIn(%v) = %v, and there is an object of %d", ops, classes, n.Value)
				}
			}
		}
	})
	if objects < 1000 || several < 300 {
		t.Errorf("%d objects are built, and %d programs have several classes", objects, several)
	}
	// Those of a graph that is written are those of the objects that are reached.
	written(t, func(g impl.Graph, _ int, ops []impl.Op) {
		var want []int
		for _, i := range wantReach(g) {
			if g.Nodes[i].Kind == impl.NkObj {
				want = append(want, g.Nodes[i].Value)
			}
		}
		slices.Sort(want)
		if got := impl.ClassesIn(ops); !slices.Equal(got, slices.Compact(want)) {
			t.Errorf("ClassesIn of WriteGraph(%v) = %v", g, got)
		}
	})
	for _, ops := range invalidPrograms() {
		long := append(program("new=1"), ops...)
		if impl.ClassesIn(ops) != nil || impl.ClassesIn(long) != nil {
			t.Errorf("ClassesIn(%v) = %v, and ClassesIn(%v) = %v", ops, impl.ClassesIn(ops), long, impl.ClassesIn(long))
		}
	}
}

func TestPromise63LeastRulesJustAllow(t *testing.T) {
	checked := 0
	readable(func(ops []impl.Op) {
		r, ok := impl.LeastRules(ops)
		_, count := impl.RunOps(ops)
		if ok != (count == len(ops)) {
			t.Errorf("LeastRules(%v) = %v, %v", ops, r, ok)
		}
		if !ok {
			if !isZeroRules(r) {
				t.Errorf("LeastRules(%v) = %v", ops, r)
			}
			return
		}
		checked++
		if done, why := impl.SafeRun(ops, r); !impl.ValidRules(r) || done != len(ops) || why != impl.ReNone && why != impl.ReOpen {
			t.Errorf("SafeRun(%v, %v) = %d, %d", ops, r, done, why)
		}
		for _, less := range lesserRules(r) {
			if done, why := impl.SafeRun(ops, less.rules); done >= len(ops) || why != less.why {
				t.Errorf("SafeRun(%v, %v) = %d, %d, and LeastRules = %v", ops, less.rules, done, why, r)
			}
		}
	})
	if checked < 1000 {
		t.Errorf("only %d programs have least rules", checked)
	}
	for _, ops := range invalidPrograms() {
		if r, ok := impl.LeastRules(ops); ok || !isZeroRules(r) {
			t.Errorf("LeastRules(%v) = %v, %v", ops, r, ok)
		}
	}
}

// lesser is rules with one thing less than others, and why a reader with them ends.
type lesser struct {
	rules impl.Rules
	why   int
}

// lesserRules returns rules with one thing less of each thing that there is.
func lesserRules(r impl.Rules) []lesser {
	var all []lesser
	if r.Steps > 0 {
		all = append(all, lesser{rules(r.Steps-1, r.Nodes, r.Deep, r.Classes...), impl.ReSteps})
	}
	if r.Nodes > 0 {
		all = append(all, lesser{rules(r.Steps, r.Nodes-1, r.Deep, r.Classes...), impl.ReNodes})
	}
	if r.Deep > 0 {
		all = append(all, lesser{rules(r.Steps, r.Nodes, r.Deep-1, r.Classes...), impl.ReDeep})
	}
	for at := range r.Classes {
		all = append(all, lesser{rules(r.Steps, r.Nodes, r.Deep, slices.Delete(slices.Clone(r.Classes), at, at+1)...), impl.ReClass})
	}
	return all
}

// checkOrder holds rules against themselves, the widest and the strictest ones, and others that are stricter.
func checkOrder(t *testing.T, d *dice, a impl.Rules) {
	t.Helper()
	shuffledClasses := make([]int, len(a.Classes))
	for i, at := range d.order(len(a.Classes)) {
		shuffledClasses[at] = a.Classes[i]
	}
	same := rules(a.Steps, a.Nodes, a.Deep, shuffledClasses...)
	if !impl.RulesAllow(a, a) || !impl.RulesAllow(a, same) || !impl.RulesAllow(same, a) {
		t.Errorf("RulesAllow(%v, %v) = false", a, same)
	}
	if !impl.RulesAllow(widest(), a) || !impl.RulesAllow(a, impl.Rules{}) {
		t.Errorf("%v are wider than the widest rules, or stricter than the strictest ones", a)
	}
	stricter := d.stricter(a)
	strictest := d.stricter(stricter)
	if !impl.RulesAllow(a, stricter) || !impl.RulesAllow(a, strictest) {
		t.Errorf("RulesAllow(%v) of %v or %v = false", a, stricter, strictest)
	}
	for _, less := range lesserRules(a) {
		if !impl.RulesAllow(a, less.rules) || impl.RulesAllow(less.rules, a) {
			t.Errorf("RulesAllow(%v, %v) = false, or the other way round true", a, less.rules)
		}
	}
}

func TestPromise64RulesAreOrdered(t *testing.T) {
	all := edgeRules()
	d := &dice{state: 76}
	both, one, neither := 0, 0, 0
	for _, a := range all {
		checkOrder(t, d, a)
		for _, b := range all {
			switch there, back := impl.RulesAllow(a, b), impl.RulesAllow(b, a); {
			case there && back:
				both++
				if a.Steps != b.Steps || a.Nodes != b.Nodes || a.Deep != b.Deep || len(a.Classes) != len(b.Classes) {
					t.Errorf("RulesAllow both ways of %v and %v", a, b)
				}
			case there || back:
				one++
			default:
				neither++
			}
		}
	}
	if both == 0 || one < 1000 || neither < 1000 {
		t.Errorf("rules allow each other %d times, one the other %d times, and none %d times", both, one, neither)
	}
	for _, c := range []struct {
		a, b impl.Rules
		want bool
	}{
		{rules(5, 5, 5, 1, 2), rules(5, 5, 5, 2, 1), true}, {rules(5, 5, 5, 1, 2), rules(5, 5, 5, 2), true}, {rules(5, 5, 5, 1, 2), rules(5, 5, 5, 3), false},
		{rules(5, 5, 5, 1, 2), rules(5, 5, 5, 1, 3), false}, {rules(5, 5, 5, 1), rules(5, 5, 5, 1, 2), false}, {rules(5, 5, 5), rules(5, 5, 5, 0), false},
		{rules(4, 5, 5), rules(5, 5, 5), false}, {rules(5, 4, 5), rules(5, 5, 5), false}, {rules(5, 5, 4), rules(5, 5, 5), false}, {rules(6, 6, 6, 9), rules(5, 5, 5), true},
		{rules(300, 300, 301), rules(0, 0, 0), false}, {rules(300, 300, 300), rules(0, 0, -1), false}, {rules(9, 9, 9, 1, 1), rules(0, 0, 0, 1), false},
	} {
		if impl.RulesAllow(c.a, c.b) != c.want {
			t.Errorf("RulesAllow(%v, %v) = %v", c.a, c.b, !c.want)
		}
	}
	for _, bad := range invalidRules() {
		if impl.RulesAllow(bad, bad) || impl.RulesAllow(bad, impl.Rules{}) || impl.RulesAllow(widest(), bad) {
			t.Errorf("RulesAllow of %v", bad)
		}
	}
}

func TestPromise65ObjectsBecomeLists(t *testing.T) {
	replaced, states := 0, 0
	possible(func(ops []impl.Op) {
		m, _ := impl.RunOps(ops)
		for class := range impl.MaxClass + 1 {
			got := impl.ForbidClass(ops, class)
			n, count := impl.RunOps(got)
			if len(got) != len(ops) || count != len(ops) || slices.Contains(impl.ClassesIn(got), class) || impl.IsWhole(got) != impl.IsWhole(ops) {
				t.Errorf("ForbidClass(%v, %d) = %v", ops, class, got)
				continue
			}
			// The nodes are the same, but for the objects of the class.
			want := copiedMachine(m)
			for i, node := range want.Nodes {
				if node.Kind == impl.NkObj && node.Value == class {
					replaced++
					states += len(node.Kids)
					want.Nodes[i].Kind, want.Nodes[i].Value = impl.NkList, 0
				}
			}
			if !identicalMachines(n, want) {
				t.Errorf("ForbidClass(%v, %d) = %v", ops, class, got)
			}
			if again := impl.ForbidClass(got, class); !slices.Equal(again, got) {
				t.Errorf("ForbidClass(%v, %d) = %v", got, class, again)
			}
			// A reader that does not allow the class does all orders now.
			allowed := slices.DeleteFunc(widest().Classes, func(c int) bool { return c == class })
			if done, why := impl.SafeRun(got, rules(300, 300, 300, allowed...)); done != len(got) || why == impl.ReClass {
				t.Errorf("SafeRun of ForbidClass(%v, %d) = %d, %d", ops, class, done, why)
			}
		}
	})
	if replaced < 1000 || states < 500 {
		t.Errorf("%d objects become lists, with %d states", replaced, states)
	}
	for _, s := range []string{"append", "new=1 stop stop", "new=1 int=1 append", "new=1 int=1 state int=1 state", "stop new=1"} {
		if got := impl.ForbidClass(program(s), 1); got != nil {
			t.Errorf("ForbidClass(%s, 1) = %v", s, got)
		}
	}
	for _, class := range []int{-1, 10} {
		if got := impl.ForbidClass(program("new=1 int=1 state stop"), class); got != nil {
			t.Errorf("ForbidClass of the class %d = %v", class, got)
		}
	}
	for _, ops := range invalidPrograms() {
		if got := impl.ForbidClass(ops, 0); got != nil {
			t.Errorf("ForbidClass(%v, 0) = %v", ops, got)
		}
	}
}

func TestPromise66BombsAreSmallWhenTheyAreWritten(t *testing.T) {
	sizes := []int{1, 3, 7, 15, 31, 63, 127, 255, 511, 1023, 2047, 4095}
	before := 0
	for levels := range impl.MaxNodes {
		g := impl.BombGraph(levels)
		size := impl.TreeSize(g)
		if size != sizes[levels] || size != min(2*before+1, impl.MaxTree) {
			t.Errorf("TreeSize of BombGraph(%d) = %d", levels, size)
		}
		before = size
		for level := range 2 {
			ops := impl.WriteGraph(g, level)
			if len(ops) < 2 || len(ops) > 4*levels+2 || !builds(ops, impl.CodeOf(g)) {
				t.Errorf("WriteGraph(%v, %d) = %v", g, level, ops)
			}
			// All is once there for a reader, but the number, which is made twice.
			r, ok := impl.LeastRules(ops)
			if !ok || r.Nodes != levels+1+min(levels, 1) || r.Steps != len(ops) || len(r.Classes) != 0 {
				t.Errorf("LeastRules of WriteGraph(%v, %d) = %v, %v", g, level, r, ok)
			}
			if count, why := impl.SafeRun(ops, rules(4*levels+2, levels+2, 2*levels+2)); count != len(ops) || why != impl.ReNone {
				t.Errorf("SafeRun of WriteGraph(%v, %d) = %d, %d", g, level, count, why)
			}
		}
		if n := g.Nodes[0]; g.Root != levels || n.Kind != impl.NkInt || n.Value != 1 || len(n.Kids) != 0 {
			t.Errorf("BombGraph(%d) = %v", levels, g)
		}
		for i := 1; i <= levels; i++ {
			if n := g.Nodes[i]; n.Kind != impl.NkTuple || n.Value != 0 || !slices.Equal(n.Kids, []int{i - 1, i - 1}) {
				t.Errorf("BombGraph(%d) = %v", levels, g)
			}
		}
	}
	for _, levels := range []int{-1, 12, 13, 100} {
		if g := impl.BombGraph(levels); !isZero(g) || impl.TreeSize(g) != -1 {
			t.Errorf("BombGraph(%d) = %v", levels, g)
		}
	}
}
