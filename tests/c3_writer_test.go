package tests

import (
	"math"
	"slices"
	"testing"

	"loop.example/graphcode/impl"
)

// TestGivenWritings has the programs of graphs by both levels, written by hand; where the second one is "", it is the first one.
func TestGivenWritings(t *testing.T) {
	for _, c := range []struct {
		g           impl.Graph
		long, short string
	}{
		// Empty things, and those without kids.
		{graph(0, number(999)), "int=999 stop", ""},
		{graph(1, number(0), text(9)), "text=9 put=0 stop", ""},
		{graph(0, tuple()), "tuple0 put=0 stop", ""},
		{graph(0, list()), "list put=0 stop", ""},
		{graph(0, dict()), "dict put=0 stop", ""},
		{graph(0, object(9)), "new=9 put=0 stop", ""},
		{graph(0, list(1, 2), tuple(), list()), "list put=0 tuple0 put=1 append list put=2 append stop", "list put=0 mark tuple0 put=1 list put=2 appends stop"},
		{graph(0, tuple(1, 1), tuple()), "mark tuple0 put=0 get=0 tuple put=1 stop", "tuple0 put=0 get=0 tuple2 put=1 stop"},
		{graph(0, object(1, 1), list()), "new=1 put=0 list put=1 state stop", ""},
		// One item alone, and two or more.
		{graph(0, list(1), number(5)), "list put=0 int=5 append stop", ""},
		{graph(0, list(1, 1), number(5)), "list put=0 int=5 append int=5 append stop", "list put=0 mark int=5 int=5 appends stop"},
		{graph(0, list(1, 2, 1), number(5), text(5)), "list put=0 int=5 append text=5 put=1 append int=5 append stop", "list put=0 mark int=5 text=5 put=1 int=5 appends stop"},
		{graph(0, tuple(1), number(5)), "mark int=5 tuple put=0 stop", "int=5 tuple1 put=0 stop"},
		{graph(0, tuple(1, 2), number(5), number(6)), "mark int=5 int=6 tuple put=0 stop", "int=5 int=6 tuple2 put=0 stop"},
		{graph(0, tuple(1, 2, 1), number(5), number(6)), "mark int=5 int=6 int=5 tuple put=0 stop", ""},
		{graph(0, dict(1, 2), number(5), text(6)), "dict put=0 int=5 text=6 put=1 setitem stop", ""},
		{graph(0, dict(2, 1), number(5), text(6)), "dict put=0 text=6 put=1 int=5 setitem stop", ""},
		{graph(0, dict(1, 2, 2, 1), number(5), text(6)), "dict put=0 int=5 text=6 put=1 setitem get=1 int=5 setitem stop", "dict put=0 mark int=5 text=6 put=1 get=1 int=5 setitems stop"},
		{graph(0, object(3, 1), number(5)), "new=3 put=0 int=5 state stop", ""},
		// What is shared, but for numbers, is got from the memo, whether it is whole by then or not.
		{graph(0, list(1, 1), text(7)), "list put=0 text=7 put=1 append get=1 append stop", "list put=0 mark text=7 put=1 get=1 appends stop"},
		{graph(0, list(0)), "list put=0 get=0 append stop", ""},
		{graph(0, list(0, 0)), "list put=0 get=0 append get=0 append stop", "list put=0 mark get=0 get=0 appends stop"},
		{graph(0, dict(1, 0), number(5)), "dict put=0 int=5 get=0 setitem stop", ""},
		{graph(0, object(3, 0)), "new=3 put=0 get=0 state stop", ""},
		{graph(2, text(1), tuple(0), tuple(1, 0, 1)), "mark mark text=1 put=0 tuple put=1 get=0 get=1 tuple put=2 stop", "mark text=1 put=0 tuple1 put=1 get=0 get=1 tuple put=2 stop"},
		{bomb(3), "mark mark mark int=1 int=1 tuple put=0 get=0 tuple put=1 get=1 tuple put=2 stop", "int=1 int=1 tuple2 put=0 get=0 tuple2 put=1 get=1 tuple2 put=2 stop"},
		{chain(3), "list put=0 list put=1 list put=2 get=0 append append append stop", ""},
		{graph(1, tuple(1), list(0)), "list put=0 mark get=0 tuple put=1 append stop", "list put=0 get=0 tuple1 put=1 append stop"},
		// Tuples that are reached again.
		{graph(0, tuple(1), list(0)), "mark list put=0 mark get=0 tuple put=1 append popmark get=1 stop", "list put=0 get=0 tuple1 put=1 append pop get=1 stop"},
		{graph(0, tuple(1), object(2, 0)), "mark new=2 put=0 mark get=0 tuple put=1 state popmark get=1 stop", "new=2 put=0 get=0 tuple1 put=1 state pop get=1 stop"},
		{graph(0, tuple(1), dict(2, 0), number(3)), "mark dict put=0 int=3 mark get=0 tuple put=1 setitem popmark get=1 stop", "dict put=0 int=3 get=0 tuple1 put=1 setitem pop get=1 stop"},
		{graph(0, tuple(1, 2), list(0), text(4)), "mark list put=0 mark get=0 text=4 put=1 tuple put=2 append get=1 popmark get=2 stop",
			"list put=0 get=0 text=4 put=1 tuple2 put=2 append get=1 pop pop get=2 stop"},
		{graph(0, tuple(2, 1), list(0), text(4)), "mark text=4 put=0 list put=1 mark get=0 get=1 tuple put=2 append popmark get=2 stop",
			"text=4 put=0 list put=1 get=0 get=1 tuple2 put=2 append pop pop get=2 stop"},
		{graph(0, tuple(1, 2, 2), list(0), number(4)), "mark list put=0 mark get=0 int=4 int=4 tuple put=1 append int=4 int=4 popmark get=1 stop", ""},
		{graph(0, tuple(1), list(0, 0)), "mark list put=0 mark get=0 tuple put=1 append get=1 append popmark get=1 stop",
			"list put=0 mark get=0 tuple1 put=1 get=1 appends pop get=1 stop"},
		{graph(0, tuple(1), tuple(2), list(0, 1)), "mark mark list put=0 mark mark get=0 tuple put=1 tuple put=2 append get=1 append popmark get=1 popmark get=2 stop",
			"list put=0 mark get=0 tuple1 put=1 tuple1 put=2 get=1 appends pop get=1 pop get=2 stop"},
		{graph(0, tuple(1, 2), list(0), list(0)), "mark list put=0 mark get=0 list put=1 mark get=0 get=1 tuple put=2 append popmark get=2 append get=1 popmark get=2 stop",
			"list put=0 get=0 list put=1 get=0 get=1 tuple2 put=2 append pop pop get=2 append get=1 pop pop get=2 stop"},
		{graph(2, tuple(1), list(0), list(0, 1)), "list put=0 mark list put=1 mark get=1 tuple put=2 append popmark get=2 append get=1 append stop",
			"list put=0 mark list put=1 get=1 tuple1 put=2 append pop get=2 get=1 appends stop"},
		// What is not reached is not written.
		{graph(1, list(0), number(3), tuple(0)), "int=3 stop", ""},
		{graph(2, text(1), list(0), list(3), text(2)), "list put=0 text=2 put=1 append stop", ""},
	} {
		if c.short == "" {
			c.short = c.long
		}
		for level, want := range []string{c.long, c.short} {
			if got := impl.WriteGraph(c.g, level); !slices.Equal(got, program(want)) {
				t.Errorf("WriteGraph(%v, %d) = %v, not %s", c.g, level, got, want)
			}
		}
	}
}

func TestWritingsAgainstReference(t *testing.T) {
	tooLong := 0
	writable(func(g impl.Graph) {
		before := copied(g)
		for level := range 2 {
			want := wantProgram(g, level)
			if want == nil {
				tooLong++
			}
			if got := impl.WriteGraph(g, level); !slices.Equal(got, want) || want == nil && got != nil {
				t.Errorf("WriteGraph(%v, %d) = %v, not %v", g, level, got, want)
			}
		}
		if !identical(g, before) {
			t.Errorf("an argument has changed: %v, not %v", g, before)
		}
	})
	if tooLong == 0 {
		t.Errorf("no program is too long")
	}
}

func TestLimitOfWritings(t *testing.T) {
	just, more, near := longGraphs()
	for level := range 2 {
		if full := wantFull(just, level); len(full) != 300 || !slices.Equal(impl.WriteGraph(just, level), full) {
			t.Errorf("WriteGraph(%v, %d) = %v, and should have %d orders", just, level, impl.WriteGraph(just, level), len(full))
		}
		if full := wantFull(more, level); len(full) != 301 || impl.WriteGraph(more, level) != nil {
			t.Errorf("WriteGraph(%v, %d) = %v, and would have %d orders", more, level, impl.WriteGraph(more, level), len(full))
		}
		lengths := map[int]bool{}
		for _, g := range near {
			full := wantFull(g, level)
			lengths[len(full)] = true
			if got := impl.WriteGraph(g, level); (got == nil) != (len(full) > 300) || got != nil && len(got) != len(full) {
				t.Errorf("WriteGraph(%v, %d) has %d orders, and would have %d", g, level, len(got), len(full))
			}
		}
		if !lengths[299] && !lengths[298] || !lengths[302] && !lengths[303] {
			t.Errorf("the programs by the level %d have %v orders", level, lengths)
		}
	}
	if g, ok := impl.CopyGraph(just); !ok || isZero(g) || !slices.Equal(wantCode(g), wantCode(just)) {
		t.Errorf("CopyGraph(%v) = %v", just, g)
	}
	if g, ok := impl.CopyGraph(more); ok || !isZero(g) {
		t.Errorf("CopyGraph(%v) = %v", more, g)
	}
	// A graph may be too long by the level 0 alone, and cannot be copied then.
	oneLevel := 0
	for _, g := range near {
		if impl.WriteGraph(g, 0) == nil && impl.WriteGraph(g, 1) != nil {
			oneLevel++
			if c, ok := impl.CopyGraph(g); ok || !isZero(c) {
				t.Errorf("CopyGraph(%v) = %v", g, c)
			}
		}
	}
	if oneLevel == 0 {
		t.Errorf("no graph is too long by the level 0 alone")
	}
}

func TestInvalidWritings(t *testing.T) {
	invalidGraphs(t, func(g impl.Graph) {
		for level := -1; level < 3; level++ {
			if ops := impl.WriteGraph(g, level); ops != nil {
				t.Errorf("WriteGraph(%v, %d) = %v", g, level, ops)
			}
		}
		if c, ok := impl.CopyGraph(g); ok || !isZero(c) {
			t.Errorf("CopyGraph(%v) = %v", g, c)
		}
	})
	for _, level := range []int{-1, 2, 3, math.MinInt, math.MaxInt} {
		for _, g := range []impl.Graph{graph(0, number(1)), graph(0, list(0))} {
			if ops := impl.WriteGraph(g, level); ops != nil {
				t.Errorf("WriteGraph(%v, %d) = %v", g, level, ops)
			}
		}
	}
}

func TestInvalidProgramsOfTheWriter(t *testing.T) {
	all := invalidPrograms()
	for _, ops := range invalidPrograms() {
		all = append(all, append(program("int=1 put=3 put=4 tuple1 get=4 tuple2 stop"), ops...))
	}
	all = append(all, program(repeated("tuple1", 301)), program(repeated("put=0", 301)))
	for _, ops := range all {
		if wantOps(ops) {
			t.Fatalf("%v is valid", ops)
		}
		if impl.CountCodes(ops) != nil || impl.IdlePuts(ops) != nil || impl.LeanOps(ops) != nil || impl.PlacesOf(ops) != -1 || impl.IsShort(ops) {
			t.Errorf("something is told of %v", ops)
		}
	}
}

func TestGivenIdlePuts(t *testing.T) {
	for _, c := range []struct {
		s, lean string
		idle    []int
	}{
		{"", "", nil},
		{"stop", "stop", nil},
		{"put=0", "", []int{0}},
		{"put=19 put=18", "", []int{0, 1}},
		{"int=1 put=3 stop", "int=1 stop", []int{1}},
		{"int=1 put=3 get=3", "int=1 put=0 get=0", nil},
		{"int=1 put=3 put=3 get=3", "int=1 put=0 get=0", []int{1}},
		{"int=1 put=3 get=3 put=3", "int=1 put=0 get=0", []int{3}},
		{"int=1 put=3 get=3 get=3", "int=1 put=0 get=0 get=0", nil},
		{"int=1 put=3 get=3 put=3 get=3", "int=1 put=0 get=0 put=0 get=0", nil},
		{"int=1 put=3 put=4 get=3", "int=1 put=0 get=0", []int{2}},
		{"int=1 put=4 put=3 get=3 get=4", "int=1 put=0 put=1 get=1 get=0", nil},
		{"int=1 put=4 put=3 put=4 get=3 get=4", "int=1 put=0 put=1 get=0 get=1", []int{1}},
		{"int=1 put=19 text=2 put=0 get=19 put=19 get=0 get=19", "int=1 put=0 text=2 put=1 get=0 put=0 get=1 get=0", nil},
		// Orders that are not possible, and those behind the end, are looked at, too.
		{"put=7 get=7", "put=0 get=0", nil},
		{"int=1 put=7 stop get=7", "int=1 put=0 stop get=0", nil},
		{"int=1 stop put=7", "int=1 stop", []int{2}},
		// An Arg of other orders is no place.
		{"int=3 put=3 int=3 text=4 put=4 new=4 stop", "int=3 int=3 text=4 new=4 stop", []int{1, 4}},
		{"int=3 new=5 text=7 put=5 get=5", "int=3 new=5 text=7 put=0 get=0", nil},
	} {
		if got := impl.IdlePuts(program(c.s)); !slices.Equal(got, c.idle) {
			t.Errorf("IdlePuts of %s = %v", c.s, got)
		}
		if got := impl.LeanOps(program(c.s)); !slices.Equal(got, program(c.lean)) {
			t.Errorf("LeanOps of %s = %v", c.s, got)
		}
	}
	// Places that are got before they are put.
	for _, s := range []string{"get=0", "get=0 put=0", "get=19 int=1 stop", "int=1 put=0 get=1", "int=1 put=0 get=0 get=1 put=1 get=1", "int=1 put=1 get=0", "int=1 stop get=5", "get=3 int=1 put=3 get=3"} {
		if got := impl.LeanOps(program(s)); got != nil {
			t.Errorf("LeanOps of %s = %v", s, got)
		}
	}
}

func TestWriterAgainstReference(t *testing.T) {
	check := func(ops []impl.Op) {
		before := slices.Clone(ops)
		if got := impl.IdlePuts(ops); !slices.Equal(got, wantIdle(ops)) {
			t.Errorf("IdlePuts(%v) = %v", ops, got)
		}
		if got := impl.PlacesOf(ops); got != len(wantPlaces(ops)) {
			t.Errorf("PlacesOf(%v) = %v", ops, got)
		}
		want, ok := wantLean(ops)
		if got := impl.LeanOps(ops); !slices.Equal(got, want) || !ok && got != nil {
			t.Errorf("LeanOps(%v) = %v", ops, got)
		}
		impl.CountCodes(ops)
		impl.IsShort(ops)
		if !slices.Equal(ops, before) {
			t.Errorf("an argument has changed: %v, not %v", ops, before)
		}
	}
	programs(check)
	putsAndGets(check)
	writable(func(g impl.Graph) {
		check(wantProgram(g, 0))
		check(wantProgram(g, 1))
	})
	d := &dice{state: 32}
	for range 1000 {
		var ops []impl.Op
		for range d.below(300) {
			ops = append(ops, impl.Op{Code: []int{impl.OcPut, impl.OcPut, impl.OcGet, impl.OcInt}[d.below(4)], Arg: d.below(20)})
		}
		check(ops)
	}
}

func TestCopies(t *testing.T) {
	for _, c := range []struct{ g, want impl.Graph }{
		{graph(1, text(1), number(5)), graph(0, number(5))},
		{graph(0, list(1, 1), text(7)), graph(0, list(1, 1), text(7))},
		{graph(0, list(1, 1), number(7)), graph(0, list(1, 2), number(7), number(7))},
		{graph(1, list(1, 0), tuple(0, 2), number(3)), graph(0, tuple(1, 2), list(0, 1), number(3))},
		{graph(2, number(3), text(1), dict(0, 1, 1, 2)), graph(0, dict(1, 2, 2, 0), number(3), text(1))},
		{graph(1, object(4, 1), object(5, 0)), graph(0, object(5, 1), object(4, 0))},
	} {
		if got, ok := impl.CopyGraph(c.g); !ok || !identical(got, c.want) {
			t.Errorf("CopyGraph(%v) = %v", c.g, got)
		}
	}
	// Each use of a number is a node of the copy, which may have too many nodes to be valid.
	g := graph(0, list(1, 2), list(3, 3, 3, 3, 3, 3), tuple(3, 3, 3, 3, 3, 3), number(8))
	got, ok := impl.CopyGraph(g)
	if !ok || len(got.Nodes) != 15 || impl.ValidGraph(got) || !slices.Equal(got.Nodes[0].Kids, []int{1, 8}) || !slices.Equal(wantCode(got), wantCode(g)) {
		t.Errorf("CopyGraph(%v) = %v", g, got)
	}
}

func TestCopiesAgainstReference(t *testing.T) {
	d := &dice{state: 33}
	none := 0
	writable(func(g impl.Graph) {
		got, ok := impl.CopyGraph(g)
		if ok != (impl.WriteGraph(g, 0) != nil) || !ok && !isZero(got) {
			t.Errorf("CopyGraph(%v) = %v, %v", g, got, ok)
		}
		if !ok {
			none++
			return
		}
		reach := wantReach(got)
		if got.Root != 0 || !slices.IsSorted(reach) || len(reach) != len(got.Nodes) || !slices.Equal(wantCode(got), wantCode(g)) {
			t.Errorf("CopyGraph(%v) = %v", g, got)
		}
		// The reference machine is slow.
		if d.below(20) > 0 {
			return
		}
		if want, wantOK := wantCopy(g); !wantOK || !identical(got, want) {
			t.Errorf("CopyGraph(%v) = %v", g, got)
		}
	})
	if none == 0 {
		t.Errorf("all graphs can be copied")
	}
}

// TestFreshWritings writes over all memory of the results, and looks at the arguments and at the next results.
func TestFreshWritings(t *testing.T) {
	shared := []int{1, 2, 0}
	g := graph(0, list(shared...), tuple(shared...), list(shared[:2]...))
	beforeGraph := copied(g)
	checkFresh(t, func() impl.Graph {
		c, _ := impl.CopyGraph(g)
		return c
	})
	ops := program("int=1 put=3 text=2 put=4 get=3 put=5 get=5 list put=9 stop")
	beforeOps := slices.Clone(ops)
	for _, f := range []func() []impl.Op{
		func() []impl.Op { return impl.WriteGraph(g, 0) },
		func() []impl.Op { return impl.WriteGraph(g, 1) },
		func() []impl.Op { return impl.LeanOps(ops) },
	} {
		first := f()
		want := slices.Clone(first)
		first = first[:cap(first)]
		for i := range first {
			first[i] = impl.Op{Code: -99, Arg: -99}
		}
		if got := f(); !slices.Equal(got, want) || !slices.Equal(ops, beforeOps) {
			t.Errorf("%v is %v after its result was changed", want, got)
		}
	}
	// A program that is lean already is a new list, too.
	lean := program("int=1 put=0 get=0 tuple2 stop")
	impl.LeanOps(lean)[0].Arg = 7
	if lean[0].Arg != 1 {
		t.Errorf("LeanOps shares its result with its argument: %v", lean)
	}
	for _, f := range []func() []int{
		func() []int { return impl.CountCodes(ops) },
		func() []int { return impl.IdlePuts(ops) },
	} {
		first := f()
		want := slices.Clone(first)
		spoil(first)
		if got := f(); !slices.Equal(got, want) || !slices.Equal(ops, beforeOps) {
			t.Errorf("%v is %v after its result was changed", want, got)
		}
	}
	if !identical(g, beforeGraph) {
		t.Errorf("an argument has changed: %v, not %v", g, beforeGraph)
	}
}
