package tests

import (
	"slices"
	"testing"

	"loop.example/graphcode/impl"
)

func TestPromise4SameIsTheSameBothWays(t *testing.T) {
	same, different := 0, 0
	d := &dice{state: 65}
	check := func(a impl.Graph, b impl.Graph) {
		if impl.SameGraph(a, b) != impl.SameGraph(b, a) || impl.SameGraph(a, b) != slices.Equal(wantCode(a), wantCode(b)) {
			t.Errorf("SameGraph(%v, %v) = %v, and %v the other way round", a, b, impl.SameGraph(a, b), impl.SameGraph(b, a))
		}
		if !impl.SameGraph(a, b) {
			different++
			return
		}
		same++
		for level := range 2 {
			if x, y := impl.WriteGraph(a, level), impl.WriteGraph(b, level); !slices.Equal(x, y) {
				t.Errorf("WriteGraph(%v, %d) = %v, but of %v it is %v", a, level, x, b, y)
			}
		}
	}
	graphPairs(check)
	writable(func(g impl.Graph) {
		check(g, g)
		check(g, shuffled(g, d.order(len(g.Nodes))))
		check(g, withoutUnreached(g))
	})
	if same < 10000 || different < 5000 {
		t.Errorf("%d pairs are the same, and %d are not", same, different)
	}
	// Graphs that are equal, and not the same, have different programs.
	a, b := graph(0, list(1, 1), text(7)), graph(0, list(1, 2), text(7), text(7))
	if impl.SameGraph(a, b) || slices.Equal(impl.WriteGraph(a, 0), impl.WriteGraph(b, 0)) {
		t.Errorf("%v and %v are the same", a, b)
	}
	// Nothing is the same as what is not valid, not even itself.
	for _, c := range brokenGraphs() {
		if impl.SameGraph(c.g, c.g) || impl.SameGraph(a, c.g) || impl.SameGraph(c.g, a) {
			t.Errorf("%s: SameGraph(%v) = true", c.why, c.g)
		}
	}
}

func TestPromise5ProgramsTellGraphs(t *testing.T) {
	first := map[string]impl.Graph{}
	again := 0
	writable(func(g impl.Graph) {
		ops := impl.WriteGraph(g, 0)
		if len(ops) == 0 {
			return
		}
		before, ok := first[shown(ops)]
		if !ok {
			first[shown(ops)] = g
			return
		}
		again++
		if !impl.SameGraph(before, g) || !slices.Equal(wantCode(before), wantCode(g)) {
			t.Errorf("%v and %v have the program %v", before, g, ops)
		}
	})
	if again == 0 {
		t.Errorf("no two graphs have the same program")
	}
	// What differs by how it is shared, by order, by kind or by value alone has different programs.
	for _, pair := range [][2]impl.Graph{
		{graph(0, list(1, 1), text(5)), graph(0, list(1, 2), text(5), text(5))},
		{graph(0, list(1, 1), tuple()), graph(0, list(1, 2), tuple(), tuple())},
		{graph(0, tuple(1, 1), list()), graph(0, tuple(1, 2), list(), list())},
		{graph(0, dict(1, 2, 3, 2), number(0), dict(), text(0)), graph(0, dict(1, 2, 3, 4), number(0), dict(), text(0), dict())},
		{graph(0, list(0)), graph(0, list(1), list(0))},
		{graph(0, tuple(1), list(0)), graph(0, tuple(1), list(2), tuple(1))},
		{graph(0, tuple(1, 1), list(0)), graph(0, tuple(1, 2), list(0), list(0))},
		{graph(0, list(1, 2), number(1), text(1)), graph(0, list(2, 1), number(1), text(1))},
		{graph(0, dict(1, 1, 2, 2), number(1), text(1)), graph(0, dict(2, 2, 1, 1), number(1), text(1))},
		{graph(0, number(1)), graph(0, text(1))},
		{graph(0, list()), graph(0, tuple())},
		{graph(0, list(1), number(1)), graph(0, tuple(1), number(1))},
		{graph(0, number(1)), graph(0, number(2))},
		{graph(0, text(1)), graph(0, text(2))},
		{graph(0, object(1)), graph(0, object(2))},
		{graph(0, object(1)), graph(0, object(1, 0))},
		{graph(0, list(1), number(1)), graph(0, list(1, 1), number(1))},
		{graph(0, tuple(1, 2), list(), number(0)), graph(0, tuple(1), list(2), number(0))},
	} {
		a, b := impl.WriteGraph(pair[0], 0), impl.WriteGraph(pair[1], 0)
		if len(a) == 0 || len(b) == 0 || slices.Equal(a, b) {
			t.Errorf("%v and %v have the programs %v and %v", pair[0], pair[1], a, b)
		}
	}
	// Names, shared numbers, and what is not reached are not told.
	a, b := graph(0, list(1, 1), number(5)), graph(3, number(5), number(5), list(1), list(1, 0))
	if !impl.SameGraph(a, b) || !slices.Equal(impl.WriteGraph(a, 0), impl.WriteGraph(b, 0)) || !slices.Equal(impl.WriteGraph(a, 1), impl.WriteGraph(b, 1)) {
		t.Errorf("%v and %v have different programs", a, b)
	}
}

func TestPromise19BuiltGraphsAreWrittenAndBuiltAgain(t *testing.T) {
	count, knotted := 0, 0
	check := func(ops []impl.Op) {
		g, ok := impl.BuildGraph(ops)
		if !ok || !impl.ValidGraph(g) {
			return
		}
		for level := range 2 {
			again := impl.WriteGraph(g, level)
			if len(again) == 0 {
				t.Errorf("WriteGraph(%v, %d) is nil", g, level)
			}
			if !builds(again, impl.CodeOf(g)) {
				t.Errorf("WriteGraph(%v, %d) = %v", g, level, again)
			}
		}
		count++
		if hasTupleOnCycle(g) {
			knotted++
		}
	}
	programs(check)
	for _, g := range knots() {
		check(impl.WriteGraph(g, 0))
		check(impl.WriteGraph(g, 1))
	}
	if count < 100 || knotted < 10 {
		t.Errorf("only %d graphs are built and written, and %d of a tuple on a cycle", count, knotted)
	}
}

func TestPromise22BothLevelsTellTheSame(t *testing.T) {
	shorter, asLong := 0, 0
	writable(func(g impl.Graph) {
		long, short := impl.WriteGraph(g, 0), impl.WriteGraph(g, 1)
		if len(long) == 0 {
			return
		}
		code := impl.CodeOf(g)
		if !builds(long, code) || !builds(short, code) || len(short) > len(long) {
			t.Errorf("WriteGraph(%v) = %v and %v", g, long, short)
		}
		if len(short) < len(long) {
			shorter++
		} else {
			asLong++
		}
	})
	if shorter == 0 || asLong == 0 {
		t.Errorf("%d programs are shorter by the level 1, and %d as long", shorter, asLong)
	}
	// By how many orders the level 1 is shorter.
	for _, c := range []struct {
		g    impl.Graph
		less int
	}{
		{graph(0, number(1)), 0},
		{graph(0, tuple()), 0},
		{graph(0, list()), 0},
		{graph(0, list(1), number(1)), 0},
		{graph(0, list(1, 1), number(1)), 0},
		{graph(0, list(1, 1, 1), number(1)), 1},
		{graph(0, list(1, 1, 1, 1, 1, 1), number(1)), 4},
		{graph(0, tuple(1), number(1)), 1},
		{graph(0, tuple(1, 1), number(1)), 1},
		{graph(0, tuple(1, 1, 1), number(1)), 0},
		{graph(0, dict(1, 1), number(1)), 0},
		{graph(0, dict(1, 1, 2, 1), number(1), number(2)), 0},
		{graph(0, dict(1, 1, 2, 1, 3, 1), number(1), number(2), text(1)), 1},
		{graph(0, object(1, 1), number(1)), 0},
		{graph(0, tuple(1), list(0)), 2},
		{graph(0, tuple(1, 2), list(0), number(1)), 1},
		{graph(0, tuple(1, 2, 2), list(0), number(1)), 0},
	} {
		long, short := impl.WriteGraph(c.g, 0), impl.WriteGraph(c.g, 1)
		if len(long)-len(short) != c.less {
			t.Errorf("WriteGraph(%v) = %v and %v", c.g, long, short)
		}
	}
}

// furtherUses returns how often nodes that are reached, and not of NkInt, are used after the first time.
func furtherUses(g impl.Graph) int {
	uses := 1
	if g.Nodes[g.Root].Kind == impl.NkInt {
		uses = 0
	}
	reach := wantReach(g)
	for _, i := range reach {
		for _, k := range g.Nodes[i].Kids {
			if g.Nodes[k].Kind != impl.NkInt {
				uses++
			}
		}
	}
	return uses - objectsOf(g)
}

// objectsOf returns how many nodes that are reached are not of NkInt.
func objectsOf(g impl.Graph) int {
	return len(slices.DeleteFunc(wantReach(g), func(i int) bool { return g.Nodes[i].Kind == impl.NkInt }))
}

func TestPromise23EachObjectIsMadeOnce(t *testing.T) {
	straight, knotted := 0, 0
	written(t, func(g impl.Graph, level int, ops []impl.Op) {
		puts, gets := countOf(ops, impl.OcPut), countOf(ops, impl.OcGet)
		if puts != objectsOf(g) || impl.PlacesOf(ops) != puts {
			t.Errorf("WriteGraph(%v, %d) = %v", g, level, ops)
		}
		if hasTupleOnCycle(g) {
			knotted++
			return
		}
		straight++
		if gets != furtherUses(g) || countOf(ops, impl.OcPop)+countOf(ops, impl.OcPopMark) != 0 {
			t.Errorf("WriteGraph(%v, %d) = %v", g, level, ops)
		}
	})
	if straight == 0 || knotted == 0 {
		t.Errorf("%d graphs have no tuple on a cycle, and %d have one", straight, knotted)
	}
	for _, c := range []struct {
		g          impl.Graph
		puts, gets int
	}{
		{graph(0, number(1)), 0, 0},
		{graph(0, text(1)), 1, 0},
		{graph(0, list(1, 1, 1), number(1)), 1, 0},
		{graph(0, list(1, 1, 1), text(1)), 2, 2},
		{graph(0, list(0, 0)), 1, 2},
		{graph(0, tuple(1, 1, 1), tuple()), 2, 2},
		{graph(0, dict(1, 1, 2, 1), text(1), number(1)), 2, 2},
		{bomb(11), 11, 10},
		{chain(12), 12, 1},
	} {
		for level := range 2 {
			ops := impl.WriteGraph(c.g, level)
			if countOf(ops, impl.OcPut) != c.puts || countOf(ops, impl.OcGet) != c.gets {
				t.Errorf("WriteGraph(%v, %d) = %v", c.g, level, ops)
			}
		}
	}
}

func TestPromise24AllOrdersAreCounted(t *testing.T) {
	check := func(ops []impl.Op) {
		counts := impl.CountCodes(ops)
		if len(counts) != impl.OcStop+1 {
			t.Fatalf("CountCodes(%v) = %v", ops, counts)
		}
		total := 0
		for code, count := range counts {
			total += count
			if count != countOf(ops, code) {
				t.Errorf("CountCodes(%v) = %v", ops, counts)
			}
		}
		if total != len(ops) {
			t.Errorf("CountCodes(%v) = %v, together %d", ops, counts, total)
		}
		half := len(ops) / 2
		first, others := impl.CountCodes(ops[:half]), impl.CountCodes(ops[half:])
		for code, count := range counts {
			if first[code]+others[code] != count {
				t.Errorf("CountCodes(%v) = %v, and %v and %v of its halves", ops, counts, first, others)
			}
		}
	}
	programs(check)
	check(nil)
	check([]impl.Op{})
	just, _, _ := longGraphs()
	check(impl.WriteGraph(just, 0))
}

func TestPromise25IdleOrdersDoNothing(t *testing.T) {
	without := 0
	check := func(ops []impl.Op) {
		code, ok := impl.BuiltCode(ops)
		if !ok {
			return
		}
		for _, i := range impl.IdlePuts(ops) {
			without++
			if ops[i].Code != impl.OcPut || !builds(withoutOrder(ops, i), code) {
				t.Errorf("IdlePuts(%v) has %d", ops, i)
			}
		}
	}
	programs(check)
	putsAndGets(func(ops []impl.Op) {
		check(ended(ops, wantMachineOf(ops)))
	})
	written(t, func(_ impl.Graph, _ int, ops []impl.Op) { check(ops) })
	if without < 1000 {
		t.Errorf("only %d orders are idle", without)
	}
}

// wantMachineOf returns the machine of the orders of a program that are possible.
func wantMachineOf(ops []impl.Op) impl.Machine {
	m, _ := wantRun(ops)
	return m
}

func TestPromise26LeanProgramsBuildTheSame(t *testing.T) {
	built, nothing := 0, 0
	check := func(ops []impl.Op) {
		lean := impl.LeanOps(ops)
		if code, ok := impl.BuiltCode(ops); ok {
			built++
			if !builds(lean, code) {
				t.Errorf("LeanOps(%v) = %v", ops, lean)
			}
		}
		if len(lean) == 0 {
			nothing++
			return
		}
		if !impl.ValidOps(lean) || len(impl.IdlePuts(lean)) > 0 || len(lean) != len(ops)-len(impl.IdlePuts(ops)) {
			t.Errorf("LeanOps(%v) = %v", ops, lean)
		}
		if again := impl.LeanOps(lean); !slices.Equal(again, lean) {
			t.Errorf("LeanOps(%v) = %v", lean, again)
		}
	}
	programs(check)
	putsAndGets(check)
	written(t, func(_ impl.Graph, _ int, ops []impl.Op) { check(ops) })
	if built < 10000 || nothing == 0 {
		t.Errorf("%d programs build a graph, and %d have no lean one", built, nothing)
	}
}

func TestPromise27OnlyWhatIsSharedIsRemembered(t *testing.T) {
	some := 0
	written(t, func(g impl.Graph, level int, ops []impl.Op) {
		if hasTupleOnCycle(g) {
			return
		}
		lean, shared := impl.LeanOps(ops), impl.SharedOf(g)
		if len(lean) == 0 || countOf(lean, impl.OcPut) != len(shared) || impl.PlacesOf(lean) != len(shared) {
			t.Errorf("LeanOps of WriteGraph(%v, %d) = %v", g, level, lean)
		}
		if len(shared) > 0 && len(shared) < objectsOf(g) {
			some++
		}
	})
	if some == 0 {
		t.Errorf("no graph has both objects that are shared and others")
	}
}

func TestPromise28LeanProgramsNeedFewPlaces(t *testing.T) {
	fewer, again := 0, 0
	check := func(ops []impl.Op) {
		places, puts := impl.PlacesOf(ops), countOf(ops, impl.OcPut)
		if places < 0 || places > puts || places > impl.MaxMemo || places == 0 && puts > 0 {
			t.Errorf("PlacesOf(%v) = %d", ops, places)
		}
		lean := impl.LeanOps(ops)
		left := impl.PlacesOf(lean)
		if left > places || left > countOf(lean, impl.OcPut) {
			t.Errorf("PlacesOf(%v) = %d, and %d of %v", lean, left, places, ops)
		}
		// The places that are left are the first ones.
		for _, o := range lean {
			if (o.Code == impl.OcPut || o.Code == impl.OcGet) && o.Arg >= left {
				t.Errorf("LeanOps(%v) = %v", ops, lean)
			}
		}
		if left < places {
			fewer++
		}
		if left < countOf(lean, impl.OcPut) {
			again++
		}
	}
	programs(check)
	putsAndGets(check)
	written(t, func(_ impl.Graph, _ int, ops []impl.Op) { check(ops) })
	if fewer == 0 || again == 0 {
		t.Errorf("%d lean programs have fewer places, and %d put twice at one", fewer, again)
	}
	for s, want := range map[string]int{
		"": 0, "int=1 get=3 stop": 0, "put=0": 1, "put=19": 1, "put=3 put=3 get=3": 1, "put=3 put=4 get=5": 2,
		repeated("put=0 put=1 put=2 put=3 put=4 put=5 put=6 put=7 put=8 put=9 put=10 put=11 put=12 put=13 put=14 put=15 put=16 put=17 put=18 put=19", 15): 20,
	} {
		if got := impl.PlacesOf(program(s)); got != want {
			t.Errorf("PlacesOf of %s = %d", s, got)
		}
	}
}

func TestPromise29ShortOrdersAreCounted(t *testing.T) {
	short := []int{impl.OcTuple1, impl.OcTuple2, impl.OcAppends, impl.OcSetItems}
	check := func(ops []impl.Op) {
		counts := impl.CountCodes(ops)
		total := 0
		for _, code := range short {
			total += counts[code]
		}
		if impl.IsShort(ops) != (total > 0) {
			t.Errorf("IsShort(%v) = %v", ops, total == 0)
		}
	}
	programs(check)
	for code := range impl.OcStop + 1 {
		want := slices.Contains(short, code)
		one := []impl.Op{{Code: code}}
		for _, ops := range [][]impl.Op{one, append(program("int=1 stop"), one...), append(one, program("int=1 stop")...), append(one, program(repeated("int=1", 299))...)} {
			if impl.IsShort(ops) != want {
				t.Errorf("IsShort(%v) = %v", ops, !want)
			}
		}
	}
	if impl.IsShort(nil) || impl.IsShort([]impl.Op{}) {
		t.Errorf("IsShort of no orders")
	}
	// Programs by the level 0 have none of the four orders, and those by the level 1 where there are two things or more.
	isShorter := func(g impl.Graph) bool {
		return slices.ContainsFunc(wantReach(g), func(i int) bool {
			n := g.Nodes[i]
			switch n.Kind {
			case impl.NkTuple:
				return len(n.Kids) == 1 || len(n.Kids) == 2
			case impl.NkList:
				return len(n.Kids) > 1
			case impl.NkDict:
				return len(n.Kids) > 2
			}
			return false
		})
	}
	written(t, func(g impl.Graph, level int, ops []impl.Op) {
		check(ops)
		if impl.IsShort(ops) != (level == 1 && isShorter(g)) {
			t.Errorf("IsShort(%v) = %v", ops, impl.IsShort(ops))
		}
	})
}

func TestPromise30CopiesAreTheSameAndApart(t *testing.T) {
	valid, great := 0, 0
	writable(func(g impl.Graph) {
		c, ok := impl.CopyGraph(g)
		if ok != (impl.WriteGraph(g, 0) != nil) || !ok && !isZero(c) {
			t.Errorf("CopyGraph(%v) = %v, %v", g, c, ok)
		}
		if !ok {
			return
		}
		// What is told of a copy must hold for one of too many nodes, too, of which the program tells nothing.
		if !slices.Equal(wantCode(c), impl.CodeOf(g)) || len(wantReach(c)) != len(c.Nodes) || !wantEqualDeep(c, g) {
			t.Errorf("CopyGraph(%v) = %v", g, c)
		}
		if !impl.ValidGraph(c) {
			great++
			if len(c.Nodes) <= impl.MaxNodes || impl.EqualDeep(c, g) {
				t.Errorf("CopyGraph(%v) = %v", g, c)
			}
			return
		}
		valid++
		if !impl.SameGraph(c, g) || !impl.EqualDeep(c, g) || !impl.EqualDeep(g, c) || len(impl.ReachOf(c)) != len(c.Nodes) {
			t.Errorf("CopyGraph(%v) = %v", g, c)
		}
	})
	if valid < 5000 || great < 100 {
		t.Errorf("%d copies are valid, and %d are not", valid, great)
	}
	// A copy is apart: what is written into it is not in the graph.
	g := graph(0, list(1, 0), tuple(2), text(3))
	before := copied(g)
	c, _ := impl.CopyGraph(g)
	for i := range c.Nodes {
		spoil(c.Nodes[i].Kids)
		c.Nodes[i] = impl.Node{Kind: -9}
	}
	if !identical(g, before) {
		t.Errorf("CopyGraph(%v) shares memory with it", before)
	}
	for _, b := range brokenGraphs() {
		if c, ok := impl.CopyGraph(b.g); ok || !isZero(c) {
			t.Errorf("%s: CopyGraph(%v) = %v, %v", b.why, b.g, c, ok)
		}
	}
}
