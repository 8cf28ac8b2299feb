package tests

import (
	"math"
	"slices"
	"testing"

	"loop.example/graphcode/impl"
)

func TestReasons(t *testing.T) {
	got := []int{impl.ReNone, impl.ReBad, impl.ReSteps, impl.ReClass, impl.ReNodes, impl.ReDeep, impl.ReOpen}
	if !slices.Equal(got, []int{0, 1, 2, 3, 4, 5, 6}) {
		t.Errorf("the reasons are %v", got)
	}
}

// TestGivenReadings has programs and rules with how many orders are done, and why no more are.
func TestGivenReadings(t *testing.T) {
	const none, bad, steps, class, nodes, deep, open = 0, 1, 2, 3, 4, 5, 6
	for _, c := range []struct {
		s          string
		r          impl.Rules
		count, why int
	}{
		{"", rules(0, 0, 0), 0, open},
		{"", widest(), 0, open},
		{"stop", rules(0, 0, 0), 0, bad},
		{"stop", widest(), 0, bad},
		{"int=1", rules(1, 1, 1), 1, open},
		{"int=1 stop", rules(2, 1, 1), 2, none},
		{"int=1 stop", widest(), 2, none},
		{"int=1 stop", rules(1, 1, 1), 1, steps},
		{"int=1 stop", rules(0, 1, 1), 0, steps},
		{"int=1 stop", rules(2, 0, 1), 0, nodes},
		{"int=1 stop", rules(2, 1, 0), 0, deep},
		{"int=1 stop pop", widest(), 2, bad},
		{"int=1 stop stop", rules(2, 1, 1), 2, bad},
		{"int=1 pop", rules(2, 1, 1), 2, open},
		{"mark", rules(1, 0, 1), 1, open},
		{"mark", rules(1, 0, 0), 0, deep},
		{"mark stop", widest(), 1, bad},
		{"new=3 stop", rules(2, 1, 1, 3), 2, none},
		{"new=3 stop", rules(2, 1, 1, 4, 3, 2), 2, none},
		{"new=3 stop", rules(2, 1, 1), 0, class},
		{"new=3 stop", rules(2, 1, 1, 0, 1, 2, 4, 5, 6, 7, 8, 9), 0, class},
		{"new=0 new=9 state stop", rules(4, 2, 2, 9, 0), 4, none},
		{"new=0 new=9 state stop", rules(4, 2, 2, 0), 1, class},
		{"new=0 new=9 state stop", rules(4, 2, 2, 9), 0, class},
		// Numbers and texts of a forbidden class, and its places, are none of its objects.
		{"int=3 text=3 put=3 get=3 tuple2 tuple2 stop", rules(7, 4, 3), 7, none},
		// What is reached is counted, not what is left: taken things are still nodes, and made room is used again.
		{"int=1 pop int=2 pop int=3 stop", rules(6, 3, 1), 6, none},
		{"int=1 pop int=2 pop int=3 stop", rules(6, 2, 1), 4, nodes},
		{"int=1 put=0 get=0 get=0 popmark", rules(9, 1, 2), 3, deep},
		{"int=1 put=0 get=0 get=0 popmark", rules(9, 1, 3), 4, bad},
		{"int=1 int=2 tuple2 int=3 tuple2 stop", rules(6, 5, 2), 6, none},
		{"int=1 int=2 tuple2 int=3 tuple2 stop", rules(6, 4, 2), 4, nodes},
		{"int=1 int=2 tuple2 int=3 tuple2 stop", rules(6, 5, 1), 1, deep},
		{"list mark int=1 int=2 appends stop", rules(6, 3, 4), 6, none},
		{"list mark int=1 int=2 appends stop", rules(6, 3, 3), 3, deep},
		{"list mark int=1 int=2 appends stop", rules(6, 2, 4), 3, nodes},
		{"mark tuple tuple1 tuple1 stop", rules(5, 3, 1), 5, none},
		{"mark tuple tuple1 tuple1 stop", rules(5, 2, 1), 3, nodes},
		// An order that several rules stop has the first reason.
		{"new=3 append", rules(0, 0, 0), 0, steps},
		{"append", rules(0, 0, 0), 0, bad},
		{"int=1 append", rules(1, 0, 0), 0, nodes},
		{"int=1 append", rules(1, 1, 1), 1, bad},
		{"int=1 stop int=2", rules(2, 1, 1), 2, bad},
		{"new=3 new=4", rules(1, 1, 1, 3), 1, steps},
		{"new=3 new=4", rules(2, 1, 1, 3), 1, class},
		{"new=3 new=4", rules(2, 1, 1, 3, 4), 1, nodes},
		{"new=3 new=4", rules(2, 2, 1, 3, 4), 1, deep},
		{"new=3 new=4", rules(2, 2, 2, 3, 4), 2, open},
		{"new=3", rules(1, 0, 0), 0, class},
		{"new=3", rules(1, 0, 0, 3), 0, nodes},
		{"new=3", rules(1, 1, 0, 3), 0, deep},
		{"get=0", rules(0, 0, 0), 0, bad},
		{"int=1 put=0 get=0", rules(2, 1, 1), 2, steps},
		{"int=1 put=0 get=0", rules(3, 1, 1), 2, deep},
		// What would be wrong later is not looked at.
		{"int=1 int=2 append new=3", rules(9, 9, 1), 1, deep},
		{"int=1 new=3 append", rules(9, 9, 9), 1, class},
	} {
		if count, why := impl.SafeRun(program(c.s), c.r); count != c.count || why != c.why {
			t.Errorf("SafeRun(%s, %v) = %d, %d, not %d, %d", c.s, c.r, count, why, c.count, c.why)
		}
	}
}

func TestReadingsAgainstReference(t *testing.T) {
	reasons := make([]int, 7)
	d := &dice{state: 74}
	readable(func(ops []impl.Op) {
		before := slices.Clone(ops)
		told := traceOf(ops)
		for _, r := range d.rulesFor(told) {
			beforeRules := copiedRules(r)
			wantCount, wantWhy := told.wantSafe(r)
			if count, why := impl.SafeRun(ops, r); count != wantCount || why != wantWhy {
				t.Errorf("SafeRun(%v, %v) = %d, %d, not %d, %d", ops, r, count, why, wantCount, wantWhy)
			}
			reasons[wantWhy]++
			if !identicalRules(r, beforeRules) || !slices.Equal(ops, before) {
				t.Errorf("an argument has changed: %v or %v", ops, r)
			}
		}
	})
	if slices.Min(reasons) < 1000 {
		t.Errorf("the reasons are %v times there", reasons)
	}
}

func TestLeastRulesAgainstReference(t *testing.T) {
	without := 0
	readable(func(ops []impl.Op) {
		want, wantOK := traceOf(ops).wantLeastRules()
		if r, ok := impl.LeastRules(ops); ok != wantOK || !identicalRules(r, want) || !ok && !isZeroRules(r) {
			t.Errorf("LeastRules(%v) = %v, %v, not %v", ops, r, ok, want)
		}
		if got := impl.ClassesIn(ops); !slices.Equal(got, wantClassesIn(ops)) {
			t.Errorf("ClassesIn(%v) = %v", ops, got)
		}
		if !wantOK {
			without++
		}
	})
	if without < 1000 {
		t.Errorf("only %d programs have no least rules", without)
	}
}

func TestGivenLeastRules(t *testing.T) {
	for _, c := range []struct {
		s  string
		r  impl.Rules
		ok bool
	}{
		{"", rules(0, 0, 0), true},
		{"int=1", rules(1, 1, 1), true},
		{"mark", rules(1, 0, 1), true},
		{"mark mark popmark popmark", rules(4, 0, 2), true},
		{"mark tuple stop", rules(3, 1, 1), true},
		{"int=5 int=6 tuple2 stop", rules(4, 3, 2), true},
		{"int=1 pop int=2 pop int=3 stop", rules(6, 3, 1), true},
		{"list mark int=1 int=2 appends stop", rules(6, 3, 4), true},
		{"list put=0 get=0 append stop", rules(5, 1, 2), true},
		{"new=7 new=2 new=7 new=0 state state state stop", rules(8, 4, 4, 0, 2, 7), true},
		{"new=9 pop", rules(2, 1, 1, 9), true},
		{repeated("int=7", 300), rules(300, 300, 300), true},
		{repeated("mark", 300), rules(300, 0, 300), true},
		{repeated("new=9", 300), rules(300, 300, 300, 9), true},
		{repeated("int=7 pop", 150), rules(300, 150, 1), true},
		{"stop", rules(0, 0, 0), false},
		{"int=1 stop stop", rules(0, 0, 0), false},
		{"new=1 append", rules(0, 0, 0), false},
		{"new=1 stop new=2", rules(0, 0, 0), false},
		{repeated("int=7", 299) + "stop", rules(0, 0, 0), false},
	} {
		if r, ok := impl.LeastRules(program(c.s)); ok != c.ok || !identicalRules(r, c.r) || !ok && !isZeroRules(r) {
			t.Errorf("LeastRules(%s) = %v, %v", c.s, r, ok)
		}
	}
	// Classes are those of all orders, whether they are possible or not.
	for s, want := range map[string][]int{
		"": nil, "stop": nil, "int=1 text=2 put=3 get=4": nil, "new=3": {3}, "new=3 new=3 new=3": {3}, "new=9 new=0": {0, 9}, "append new=4 append new=2 new=4 stop new=3": {2, 3, 4},
		"int=1 stop new=5": {5}, repeated("new=8", 300): {8}, "new=9 new=8 new=7 new=6 new=5 new=4 new=3 new=2 new=1 new=0 new=9": {0, 1, 2, 3, 4, 5, 6, 7, 8, 9},
	} {
		if got := impl.ClassesIn(program(s)); !slices.Equal(got, want) {
			t.Errorf("ClassesIn(%s) = %v", s, got)
		}
	}
}

func TestGivenForbiddenClasses(t *testing.T) {
	for _, c := range []struct {
		s    string
		c    int
		want string
	}{
		{"", 1, ""},
		{"int=1 stop", 1, "int=1 stop"},
		{"new=1 stop", 1, "list stop"},
		{"new=1 stop", 2, "new=1 stop"},
		{"new=0 stop", 0, "list stop"},
		{"new=9 stop", 9, "list stop"},
		{"new=9 stop", 0, "new=9 stop"},
		{"new=1 int=5 state stop", 1, "list int=5 append stop"},
		{"new=1 int=5 state stop", 5, "new=1 int=5 state stop"},
		{"new=1 new=1 state stop", 1, "list list append stop"},
		{"new=1 new=2 state stop", 1, "list new=2 append stop"},
		{"new=1 new=2 state stop", 2, "new=1 list state stop"},
		{"new=1 new=2 new=1 state state stop", 1, "list new=2 list state append stop"},
		{"new=1 new=2 new=1 state state stop", 2, "new=1 list new=1 append state stop"},
		{"new=1 put=0 get=0 state stop", 1, "list put=0 get=0 append stop"},
		{"new=1 put=0 new=2 get=0 state state stop", 1, "list put=0 new=2 get=0 state append stop"},
		{"new=1 put=0 new=2 get=0 state state stop", 2, "new=1 put=0 list get=0 append state stop"},
		{"new=1 put=0 pop list get=0 int=5 state append stop", 1, "list put=0 pop list get=0 int=5 append append stop"},
		{"new=1 put=0 new=2 put=0 pop pop get=0 int=5 state stop", 1, "list put=0 new=2 put=0 pop pop get=0 int=5 state stop"},
		{"new=1 put=0 new=2 put=0 pop pop get=0 int=5 state stop", 2, "new=1 put=0 list put=0 pop pop get=0 int=5 append stop"},
		// Lists that were lists stay as they are, and so do other orders.
		{"list new=1 append stop", 1, "list list append stop"},
		{"list mark new=1 new=2 appends stop", 1, "list mark list new=2 appends stop"},
		{"new=1 list int=1 append state stop", 1, "list list int=1 append append stop"},
		{"new=2 list int=1 append state stop", 1, "new=2 list int=1 append state stop"},
		{"new=1 list state stop", 2, "new=1 list state stop"},
		{"int=1 text=1 put=1 get=1 tuple2 tuple2 stop", 1, "int=1 text=1 put=1 get=1 tuple2 tuple2 stop"},
		{"dict mark int=1 new=1 int=2 new=2 setitems", 1, "dict mark int=1 list int=2 new=2 setitems"},
		{"mark new=1 int=1 state tuple new=1 pop", 1, "mark list int=1 append tuple list pop"},
		{repeated("new=1", 300), 1, repeated("list", 300)},
		{repeated("new=1", 150) + repeated("state", 149), 1, repeated("list", 150) + repeated("append", 149)},
	} {
		got := impl.ForbidClass(program(c.s), c.c)
		if !slices.Equal(got, program(c.want)) {
			t.Errorf("ForbidClass(%s, %d) = %v", c.s, c.c, got)
		}
		if _, count := impl.RunOps(got); count != len(got) {
			t.Errorf("ForbidClass(%s, %d) = %v, of which %d are possible", c.s, c.c, got, count)
		}
	}
	for _, s := range []string{"stop", "append", "new=1 append", "new=1 int=1 append", "new=1 stop stop", "new=1 stop new=1", "new=1 int=1 state int=2 state stop", "list int=1 state", "new=1 list int=1 setitem"} {
		for class := range impl.MaxClass + 1 {
			if got := impl.ForbidClass(program(s), class); got != nil {
				t.Errorf("ForbidClass(%s, %d) = %v", s, class, got)
			}
		}
	}
}

func TestForbiddenClassesAgainstReference(t *testing.T) {
	changed, none := 0, 0
	readable(func(ops []impl.Op) {
		before := slices.Clone(ops)
		told := traceOf(ops)
		for _, class := range []int{-1, 0, 1, 2, 5, 9, 10} {
			got := impl.ForbidClass(ops, class)
			want := told.wantForbidden(class)
			if !slices.Equal(got, want) {
				t.Errorf("ForbidClass(%v, %d) = %v, not %v", ops, class, got, want)
			}
			if countOf(got, impl.OcState) < countOf(ops, impl.OcState) && got != nil {
				changed++
			}
			if want == nil {
				none++
			}
		}
		if !slices.Equal(ops, before) {
			t.Errorf("an argument has changed: %v, not %v", ops, before)
		}
	})
	if changed < 500 || none < 1000 {
		t.Errorf("%d programs have other orders for states, and for %d there are none", changed, none)
	}
}

func TestGivenBombs(t *testing.T) {
	for levels := range impl.MaxNodes {
		g := impl.BombGraph(levels)
		if !identical(g, bomb(levels)) || !impl.ValidGraph(g) || len(g.Nodes) != levels+1 || g.Root != levels {
			t.Errorf("BombGraph(%d) = %v", levels, g)
		}
	}
	if g := impl.BombGraph(0); !identical(g, graph(0, number(1))) {
		t.Errorf("BombGraph(0) = %v", g)
	}
	if g := impl.BombGraph(2); !identical(g, graph(2, number(1), tuple(0, 0), tuple(1, 1))) {
		t.Errorf("BombGraph(2) = %v", g)
	}
	for _, levels := range []int{-1, -2, 12, 13, 300, math.MinInt, math.MaxInt} {
		if g := impl.BombGraph(levels); !isZero(g) {
			t.Errorf("BombGraph(%d) = %v", levels, g)
		}
	}
}

func TestValidRules(t *testing.T) {
	for _, r := range edgeRules() {
		before := copiedRules(r)
		if !impl.ValidRules(r) || !wantRules(r) {
			t.Errorf("ValidRules(%v) = false", r)
		}
		if !identicalRules(r, before) {
			t.Errorf("an argument has changed: %v, not %v", r, before)
		}
	}
	for _, r := range invalidRules() {
		if impl.ValidRules(r) || wantRules(r) {
			t.Errorf("ValidRules(%v) = true", r)
		}
	}
}

func TestRulesAgainstReference(t *testing.T) {
	all := edgeRules()
	allowed := 0
	for _, a := range all {
		for _, b := range all {
			want := wantAllow(a, b)
			if impl.RulesAllow(a, b) != want {
				t.Errorf("RulesAllow(%v, %v) = %v", a, b, !want)
			}
			if want {
				allowed++
			}
		}
		for _, b := range invalidRules() {
			if impl.RulesAllow(a, b) || impl.RulesAllow(b, a) {
				t.Errorf("RulesAllow of %v and %v", a, b)
			}
		}
	}
	if allowed < 10000 {
		t.Errorf("only %d rules allow others", allowed)
	}
	for _, r := range invalidRules() {
		if impl.RulesAllow(r, r) {
			t.Errorf("RulesAllow(%v) = true", r)
		}
	}
}

// TestLimitsOfReading is about programs that reach the limits of rules, and rules that are just kept, or one less.
func TestLimitsOfReading(t *testing.T) {
	for _, c := range []struct {
		s          string
		r          impl.Rules
		count, why int
	}{
		{repeated("int=7", 300), rules(300, 300, 300), 300, impl.ReOpen},
		{repeated("int=7", 300), rules(299, 300, 300), 299, impl.ReSteps},
		{repeated("int=7", 300), rules(300, 299, 300), 299, impl.ReNodes},
		{repeated("int=7", 300), rules(300, 300, 299), 299, impl.ReDeep},
		{repeated("int=7", 299) + "stop", rules(300, 300, 300), 299, impl.ReBad},
		{repeated("mark", 300), rules(300, 0, 300), 300, impl.ReOpen},
		{repeated("mark", 300), rules(300, 0, 299), 299, impl.ReDeep},
		{repeated("mark", 300), rules(299, 0, 299), 299, impl.ReSteps},
		{repeated("tuple0 pop", 149) + "tuple0 stop", rules(300, 150, 1), 300, impl.ReNone},
		{repeated("tuple0 pop", 149) + "tuple0 stop", rules(299, 150, 1), 299, impl.ReSteps},
		{repeated("tuple0 pop", 149) + "tuple0 stop", rules(300, 149, 1), 298, impl.ReNodes},
		{"tuple0 " + repeated("tuple1", 298) + "stop", rules(300, 299, 1), 300, impl.ReNone},
		{"tuple0 " + repeated("tuple1", 298) + "stop", rules(300, 298, 1), 298, impl.ReNodes},
		{"mark " + repeated("int=7", 297) + "tuple stop", rules(300, 298, 298), 300, impl.ReNone},
		{"mark " + repeated("int=7", 297) + "tuple stop", rules(300, 297, 298), 298, impl.ReNodes},
		{"mark " + repeated("int=7", 297) + "tuple stop", rules(300, 298, 297), 297, impl.ReDeep},
		{repeated("new=9", 300), rules(300, 300, 300, 9), 300, impl.ReOpen},
		{repeated("new=9", 299) + "new=0", rules(300, 300, 300, 9), 299, impl.ReClass},
		{repeated("new=9", 299) + "new=0", rules(300, 299, 299, 9), 299, impl.ReClass},
		{repeated("new=9", 299) + "new=0", rules(300, 300, 300, 0, 9), 300, impl.ReOpen},
	} {
		if count, why := impl.SafeRun(program(c.s), c.r); count != c.count || why != c.why {
			t.Errorf("SafeRun(%v, %v) = %d, %d", program(c.s), c.r, count, why)
		}
	}
	for _, s := range []string{repeated("int=7", 301), repeated("int=7 pop", 150) + "int=7", repeated("new=1", 301)} {
		ops := program(s)
		for _, r := range edgeRules() {
			if count, why := impl.SafeRun(ops, r); count != -1 || why != -1 {
				t.Errorf("SafeRun(%v, %v) = %d, %d", ops, r, count, why)
			}
		}
	}
}

func TestInvalidReadings(t *testing.T) {
	for _, ops := range invalidPrograms() {
		for _, r := range []impl.Rules{widest(), {}, rules(1, 1, 1)} {
			if count, why := impl.SafeRun(ops, r); count != -1 || why != -1 {
				t.Errorf("SafeRun(%v, %v) = %d, %d", ops, r, count, why)
			}
		}
		if r, ok := impl.LeastRules(ops); ok || !isZeroRules(r) {
			t.Errorf("LeastRules(%v) = %v, %v", ops, r, ok)
		}
		if classes := impl.ClassesIn(ops); classes != nil {
			t.Errorf("ClassesIn(%v) = %v", ops, classes)
		}
		// A valid order of a class before the others does not change that.
		long := append(program("new=1"), ops...)
		if classes := impl.ClassesIn(long); classes != nil {
			t.Errorf("ClassesIn(%v) = %v", long, classes)
		}
		for class := -1; class <= impl.MaxClass+1; class++ {
			if changed := impl.ForbidClass(ops, class); changed != nil {
				t.Errorf("ForbidClass(%v, %d) = %v", ops, class, changed)
			}
		}
	}
	for _, r := range invalidRules() {
		for _, s := range []string{"", "stop", "int=1 stop", "new=1 stop", "append"} {
			if count, why := impl.SafeRun(program(s), r); count != -1 || why != -1 {
				t.Errorf("SafeRun(%s, %v) = %d, %d", s, r, count, why)
			}
		}
	}
	for _, class := range []int{-1, -2, 10, 11, 999, math.MinInt, math.MaxInt} {
		for _, s := range []string{"", "int=1 stop", "new=1 stop", "new=0 int=1 state stop", "list int=1 append stop"} {
			if changed := impl.ForbidClass(program(s), class); changed != nil {
				t.Errorf("ForbidClass(%s, %d) = %v", s, class, changed)
			}
		}
	}
}

// TestFreshReadings writes over all memory of the results, and looks at the arguments and at the next results.
func TestFreshReadings(t *testing.T) {
	ops := program("new=4 put=0 int=1 state new=2 new=7 state tuple2 stop")
	before := slices.Clone(ops)
	for _, f := range []func() []int{
		func() []int { return impl.ClassesIn(ops) },
		func() []int { r, _ := impl.LeastRules(ops); return r.Classes },
	} {
		first := f()
		spoil(first)
		if got := f(); !slices.Equal(got, []int{2, 4, 7}) {
			t.Errorf("the classes of %v are %v after the result was changed", ops, got)
		}
	}
	for class := range impl.MaxClass + 1 {
		first := impl.ForbidClass(ops, class)
		want := slices.Clone(first)
		first = first[:cap(first)]
		for i := range first {
			first[i] = impl.Op{Code: -99, Arg: -99}
		}
		if got := impl.ForbidClass(ops, class); !slices.Equal(got, want) || !slices.Equal(ops, before) {
			t.Errorf("%v is %v after its result was changed", want, got)
		}
	}
	checkFresh(t, func() impl.Graph { return impl.BombGraph(5) })
	if !slices.Equal(ops, before) {
		t.Errorf("an argument has changed: %v, not %v", ops, before)
	}
}
