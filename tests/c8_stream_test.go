package tests

import (
	"math"
	"slices"
	"strings"
	"testing"

	"loop.example/graphcode/impl"
)

// TestGivenManyWritings has the programs of roots by both levels, written by hand; where the second one is "", it is the first one.
func TestGivenManyWritings(t *testing.T) {
	pair := graph(0, text(7), list(0, 0))
	knot := graph(0, tuple(1), list(0))
	state := graph(0, dict(1, 2), text(3), object(4, 0))
	for _, c := range []struct {
		g           impl.Graph
		roots       []int
		long, short string
	}{
		{pair, nil, "", ""},
		{pair, []int{}, "", ""},
		{pair, []int{0}, "text=7 put=0 stop", ""},
		{pair, []int{1}, "list put=0 text=7 put=1 append get=1 append stop", "list put=0 mark text=7 put=1 get=1 appends stop"},
		{pair, []int{0, 0}, "text=7 put=0 stop get=0 stop", ""},
		{pair, []int{0, 0, 0, 0, 0}, "text=7 put=0 stop get=0 stop get=0 stop get=0 stop get=0 stop", ""},
		{pair, []int{0, 1}, "text=7 put=0 stop list put=1 get=0 append get=0 append stop", "text=7 put=0 stop list put=1 mark get=0 get=0 appends stop"},
		{pair, []int{1, 0}, "list put=0 text=7 put=1 append get=1 append stop get=1 stop", "list put=0 mark text=7 put=1 get=1 appends stop get=1 stop"},
		{pair, []int{0, 1, 0}, "text=7 put=0 stop list put=1 get=0 append get=0 append stop get=0 stop", "text=7 put=0 stop list put=1 mark get=0 get=0 appends stop get=0 stop"},
		// Numbers are written anew each time.
		{graph(0, number(5)), []int{0, 0, 0}, "int=5 stop int=5 stop int=5 stop", ""},
		{graph(0, number(5), list(0)), []int{0, 1, 0}, "int=5 stop list put=0 int=5 append stop int=5 stop", ""},
		{graph(0, number(5), number(5)), []int{1, 0}, "int=5 stop int=5 stop", ""},
		// Equal nodes are different ones.
		{graph(0, text(5), text(5)), []int{0, 1, 0}, "text=5 put=0 stop text=5 put=1 stop get=0 stop", ""},
		{graph(0, tuple(), list(), dict(), object(9)), []int{3, 2, 1, 0}, "new=9 put=0 stop dict put=1 stop list put=2 stop tuple0 put=3 stop", ""},
		// Cycles, and tuples that are reached again.
		{graph(0, list(0)), []int{0, 0}, "list put=0 get=0 append stop get=0 stop", ""},
		{chain(3), []int{2, 1, 0}, "list put=0 list put=1 list put=2 get=0 append append append stop get=2 stop get=1 stop", ""},
		{knot, []int{0, 1}, "mark list put=0 mark get=0 tuple put=1 append popmark get=1 stop get=0 stop", "list put=0 get=0 tuple1 put=1 append pop get=1 stop get=0 stop"},
		{knot, []int{1, 0}, "list put=0 mark get=0 tuple put=1 append stop get=1 stop", "list put=0 get=0 tuple1 put=1 append stop get=1 stop"},
		{state, []int{2, 1, 0}, "new=4 put=0 dict put=1 text=3 put=2 get=0 setitem state stop get=2 stop get=1 stop", ""},
		{state, []int{1, 0, 2}, "text=3 put=0 stop dict put=1 get=0 new=4 put=2 get=1 state setitem stop get=2 stop", ""},
		{bomb(2), []int{1, 2, 0}, "mark int=1 int=1 tuple put=0 stop mark get=0 get=0 tuple put=1 stop int=1 stop", "int=1 int=1 tuple2 put=0 stop get=0 get=0 tuple2 put=1 stop int=1 stop"},
		// What no root reaches is not written.
		{graph(0, list(1), list(2), text(1)), []int{2, 1}, "text=1 put=0 stop list put=1 get=0 append stop", ""},
	} {
		if c.short == "" {
			c.short = c.long
		}
		for level, want := range []string{c.long, c.short} {
			// Root is not looked at.
			for root := range c.g.Nodes {
				if got := impl.WriteMany(rooted(c.g, root), c.roots, level); !slices.Equal(got, program(want)) {
					t.Errorf("WriteMany(%v, %v, %d) = %v, not %s", rooted(c.g, root), c.roots, level, got, want)
				}
			}
		}
	}
}

func TestManyWritingsAgainstReference(t *testing.T) {
	tooLong := 0
	rootings(func(g impl.Graph, roots []int) {
		before, rootsBefore := copied(g), slices.Clone(roots)
		for level := range 2 {
			want := wantMany(g, roots, level)
			if want == nil && len(roots) > 0 {
				tooLong++
			}
			if got := impl.WriteMany(g, roots, level); !slices.Equal(got, want) {
				t.Errorf("WriteMany(%v, %v, %d) = %v, not %v", g, roots, level, got, want)
			}
		}
		if got, want := impl.CodeMany(g, roots), wantCodes(g.Nodes, roots); !slices.Equal(got, want) {
			t.Errorf("CodeMany(%v, %v) = %v, not %v", g, roots, got, want)
		}
		if !identical(g, before) || !slices.Equal(roots, rootsBefore) {
			t.Errorf("an argument has changed: %v or %v", g, roots)
		}
	})
	if tooLong < 10 {
		t.Errorf("only %d programs are too long", tooLong)
	}
}

func TestGivenManyCodes(t *testing.T) {
	pair := graph(0, text(7), list(0, 0))
	for _, c := range []struct {
		g     impl.Graph
		roots []int
		want  []int
	}{
		{pair, nil, nil},
		{pair, []int{0}, []int{1, 7, 0}},
		{pair, []int{1}, []int{3, 0, 2, 1, 7, 0, -1, 1}},
		{pair, []int{0, 0}, []int{1, 7, 0, -1, 0}},
		{pair, []int{1, 0, 1}, []int{3, 0, 2, 1, 7, 0, -1, 1, -1, 1, -1, 0}},
		{pair, []int{0, 1, 0}, []int{1, 7, 0, 3, 0, 2, -1, 0, -1, 0, -1, 0}},
		{graph(0, number(5), list(0)), []int{0, 1, 0, 1}, []int{0, 5, 0, 3, 0, 1, 0, 5, 0, 0, 5, 0, -1, 0}},
		{graph(0, text(5), text(5)), []int{1, 0, 1}, []int{1, 5, 0, 1, 5, 0, -1, 0}},
		{chain(3), []int{1, 0, 2}, []int{3, 0, 1, 3, 0, 1, 3, 0, 1, -1, 0, -1, 2, -1, 1}},
		{graph(0, tuple(1), list(0)), []int{1, 0}, []int{3, 0, 1, 2, 0, 1, -1, 0, -1, 1}},
		{graph(0, object(9, 1), dict(2, 0), number(999)), []int{2, 1, 0, 0, 0}, []int{0, 999, 0, 4, 0, 2, 0, 999, 0, 5, 9, 1, -1, 0, -1, 1, -1, 1, -1, 1}},
	} {
		for root := range c.g.Nodes {
			if got := impl.CodeMany(rooted(c.g, root), c.roots); !slices.Equal(got, c.want) {
				t.Errorf("CodeMany(%v, %v) = %v, not %v", rooted(c.g, root), c.roots, got, c.want)
			}
		}
	}
}

// TestLimitOfManyWritings is about programs of several roots of just 300 orders, and of one or two more.
func TestLimitOfManyWritings(t *testing.T) {
	just, more, near := longGraphs()
	for level := range 2 {
		lengths := map[int]int{}
		for _, g := range append(near, just, more) {
			last := len(g.Nodes) - 1
			for _, roots := range [][]int{{0}, {0, 0}, {0, last}, {last, 0}, {0, 0, 0, 0, 0}, {1, 0}, {last, last, last, last, 0}, {0, last, 1, 0, last}} {
				full := wantFullOf(g.Nodes, roots, level)
				lengths[len(full)]++
				if got := impl.WriteMany(g, roots, level); len(full) <= 300 && !slices.Equal(got, full) || len(full) > 300 && got != nil {
					t.Errorf("WriteMany(%v, %v, %d) has %d orders, and would have %d", g, roots, level, len(got), len(full))
				}
			}
		}
		if lengths[299]+lengths[298] < 5 || lengths[300] < 5 || lengths[301] < 5 || lengths[302] < 5 {
			t.Errorf("the programs by the level %d have %v orders", level, lengths)
		}
	}
}

func TestInvalidRoots(t *testing.T) {
	validGraphs(func(g impl.Graph) {
		for _, roots := range invalidRoots(len(g.Nodes)) {
			for level := range 2 {
				if ops := impl.WriteMany(g, roots, level); ops != nil {
					t.Errorf("WriteMany(%v, %v, %d) = %v", g, roots, level, ops)
				}
			}
			if code := impl.CodeMany(g, roots); code != nil {
				t.Errorf("CodeMany(%v, %v) = %v", g, roots, code)
			}
		}
		for _, level := range []int{-1, 2, 3, math.MinInt, math.MaxInt} {
			if ops := impl.WriteMany(g, []int{0}, level); ops != nil {
				t.Errorf("WriteMany(%v, [0], %d) = %v", g, level, ops)
			}
		}
	})
	invalidGraphs(t, func(g impl.Graph) {
		for _, roots := range [][]int{nil, {0}, {0, 0}, {g.Root}, {1}, {-1}} {
			if ops, code := impl.WriteMany(g, roots, 0), impl.CodeMany(g, roots); ops != nil || code != nil {
				t.Errorf("WriteMany(%v, %v, 0) = %v, and CodeMany = %v", g, roots, ops, code)
			}
		}
	})
	// Five roots, and one more.
	g := graph(0, text(1), number(2))
	for count := range 5 {
		roots := slices.Repeat([]int{1}, count+1)
		if ops, code := impl.WriteMany(g, roots, 0), impl.CodeMany(g, roots); len(ops) != 2*len(roots) || len(code) != 3*len(roots) {
			t.Errorf("WriteMany of %d roots = %v, and CodeMany = %v", count, ops, code)
		}
	}
	if ops, code := impl.WriteMany(g, make([]int, 6), 0), impl.CodeMany(g, make([]int, 6)); ops != nil || code != nil {
		t.Errorf("WriteMany of six roots = %v, and CodeMany = %v", ops, code)
	}
}

func TestGivenManyReadings(t *testing.T) {
	for _, c := range []struct {
		s     string
		nodes []impl.Node
		roots []int
		end   int
	}{
		// No roots.
		{"", nil, nil, 0},
		{"stop", nil, nil, 0},
		{"stop int=1 stop", nil, nil, 0},
		{"int=1", nil, nil, 0},
		{"int=1 int=2 stop", nil, nil, 0},
		{"int=1 mark stop", nil, nil, 0},
		{"mark int=1 stop", nil, nil, 0},
		{"append stop int=1 stop", nil, nil, 0},
		{repeated("int=1", 300), nil, nil, 0},
		// One root, and what is behind it.
		{"int=1 stop", []impl.Node{number(1)}, []int{0}, 2},
		{"int=1 stop stop", []impl.Node{number(1)}, []int{0}, 2},
		{"int=1 stop pop int=2 stop", []impl.Node{number(1)}, []int{0}, 2},
		{"int=1 stop put=0 stop", []impl.Node{number(1)}, []int{0}, 2},
		{"int=1 stop tuple1 stop", []impl.Node{number(1)}, []int{0}, 2},
		{"int=1 stop mark stop int=2 stop", []impl.Node{number(1)}, []int{0}, 2},
		{"int=1 stop int=2", []impl.Node{number(1)}, []int{0}, 2},
		{"int=1 stop int=2 int=3 stop", []impl.Node{number(1)}, []int{0}, 2},
		{"int=1 put=0 stop get=1 stop", []impl.Node{number(1)}, []int{0}, 3},
		{"int=1 pop int=2 stop", []impl.Node{number(1), number(2)}, []int{1}, 4},
		// Several roots: the stack is empty again, and nodes and places stay.
		{"int=1 stop int=2 stop", []impl.Node{number(1), number(2)}, []int{0, 1}, 4},
		{"int=1 stop int=2 stop int=3", []impl.Node{number(1), number(2)}, []int{0, 1}, 4},
		{"int=1 put=0 stop get=0 stop get=0 tuple1 stop", []impl.Node{number(1), tuple(0)}, []int{0, 0, 1}, 8},
		{"int=1 put=0 stop get=0 get=0 stop", []impl.Node{number(1)}, []int{0}, 3},
		{"int=1 put=0 int=2 put=1 tuple2 stop get=1 stop get=0 stop", []impl.Node{number(1), number(2), tuple(0, 1)}, []int{2, 1, 0}, 10},
		{"text=1 put=5 stop text=2 put=5 stop get=5 stop", []impl.Node{text(1), text(2)}, []int{0, 1, 1}, 8},
		{"mark popmark int=1 stop mark int=2 tuple stop", []impl.Node{number(1), number(2), tuple(1)}, []int{0, 2}, 8},
		// Nodes are as they were at the last root, whatever is done behind it.
		{"list put=0 stop get=0 int=5 append", []impl.Node{list()}, []int{0}, 3},
		{"list put=0 stop get=0 get=0 append", []impl.Node{list()}, []int{0}, 3},
		{"list put=0 stop get=0 int=5 append stop", []impl.Node{list(1), number(5)}, []int{0, 0}, 7},
		{"list put=0 stop get=0 int=5 append stop get=0 get=0 append", []impl.Node{list(1), number(5)}, []int{0, 0}, 7},
		{"list put=0 stop get=0 get=0 append stop get=0 int=6 append get=9", []impl.Node{list(0)}, []int{0, 0}, 7},
		{"dict put=0 stop get=0 int=1 get=0 setitem stop get=0 int=1 int=2 setitem", []impl.Node{dict(1, 0), number(1)}, []int{0, 0}, 8},
		{"dict put=0 stop get=0 int=1 get=0 setitem stop get=0 int=1 int=2 setitem stop", []impl.Node{dict(1, 3), number(1), number(1), number(2)}, []int{0, 0, 0}, 13},
		{"new=4 put=0 stop get=0 get=0 state", []impl.Node{object(4)}, []int{0}, 3},
		{"new=4 put=0 stop get=0 int=1 state", []impl.Node{object(4)}, []int{0}, 3},
		{"new=4 put=0 stop get=0 int=1 state stop get=0 int=2 state stop", []impl.Node{object(4, 1), number(1)}, []int{0, 0}, 7},
	} {
		g, roots, end := impl.ReadMany(program(c.s))
		if !identical(g, graph(0, c.nodes...)) || !slices.Equal(roots, c.roots) || end != c.end {
			t.Errorf("ReadMany(%s) = %v, %v, %d", c.s, g, roots, end)
		}
	}
}

func TestManyReadingsAgainstReference(t *testing.T) {
	rootless, several, goingOn := 0, 0, 0
	streamed(func(ops []impl.Op) {
		before := slices.Clone(ops)
		want, wantRoots, wantEnd := wantReadMany(ops)
		g, roots, end := impl.ReadMany(ops)
		if !identical(g, want) || !slices.Equal(roots, wantRoots) || end != wantEnd {
			t.Errorf("ReadMany(%v) = %v, %v, %d, not %v, %v, %d", ops, g, roots, end, want, wantRoots, wantEnd)
		}
		if got, want := impl.ReadCode(ops), wantCodes(want.Nodes, wantRoots); !slices.Equal(got, want) {
			t.Errorf("ReadCode(%v) = %v, not %v", ops, got, want)
		}
		if got, want := impl.SplitStops(ops), wantSplit(ops); !slices.EqualFunc(got, want, slices.Equal) {
			t.Errorf("SplitStops(%v) = %v, not %v", ops, got, want)
		}
		if !slices.Equal(ops, before) {
			t.Errorf("an argument has changed: %v, not %v", ops, before)
		}
		switch {
		case len(roots) == 0:
			rootless++
		case len(roots) > 1:
			several++
		}
		if len(roots) > 0 && end < len(ops) {
			goingOn++
		}
	})
	if rootless < 1000 || several < 1000 || goingOn < 500 {
		t.Errorf("%d programs have no roots, %d have several ones, and %d go on behind them", rootless, several, goingOn)
	}
}

// TestReadingsOfManyRoots is about more roots than a graph may be written with.
func TestReadingsOfManyRoots(t *testing.T) {
	g, roots, end := impl.ReadMany(program(repeated("int=7 stop", 150)))
	if len(g.Nodes) != 150 || len(roots) != 150 || roots[149] != 149 || end != 300 {
		t.Errorf("ReadMany = %v, %v, %d", g, roots, end)
	}
	ops := program("list put=0 stop " + repeated("get=0 stop", 148))
	g, roots, end = impl.ReadMany(ops)
	if len(g.Nodes) != 1 || !slices.Equal(roots, make([]int, 149)) || end != 299 {
		t.Errorf("ReadMany = %v, %v, %d", g, roots, end)
	}
	if code := impl.ReadCode(ops); !slices.Equal(code, append([]int{3, 0, 0}, slices.Repeat([]int{-1, 0}, 148)...)) {
		t.Errorf("ReadCode = %v", code)
	}
	for count := range 8 {
		if code := impl.ReadCode(program(repeated("int=7 stop", count))); !slices.Equal(code, slices.Repeat([]int{0, 7, 0}, count)) {
			t.Errorf("ReadCode of %d roots = %v", count, code)
		}
	}
	// Graphs that are not valid, with too many nodes, too many kids, or tuples on a cycle of tuples, have codes, too.
	long := program("list put=0 mark " + repeated("int=7", 294) + "appends stop")
	if code := impl.ReadCode(long); len(code) != 3+3*294 || code[2] != 294 {
		t.Errorf("ReadCode of a list of 294 numbers = %v", code)
	}
	for s, want := range map[string][]int{
		"tuple0 " + strings.TrimSpace(repeated("tuple1", 20)) + " put=0 stop get=0 stop": append(append(slices.Repeat([]int{2, 0, 1}, 20), 2, 0, 0), -1, 0),
		"list put=0 " + repeated("get=0 append", 7) + "stop":                             {3, 0, 7, -1, 0, -1, 0, -1, 0, -1, 0, -1, 0, -1, 0, -1, 0},
	} {
		if code := impl.ReadCode(program(s)); !slices.Equal(code, want) {
			t.Errorf("ReadCode(%s) = %v", s, code)
		}
	}
}

func TestGivenParts(t *testing.T) {
	for s, want := range map[string][]string{
		"":                                nil,
		"stop":                            {"stop"},
		"stop stop":                       {"stop", "stop"},
		"int=1":                           {"int=1"},
		"int=1 int=2":                     {"int=1 int=2"},
		"int=1 stop":                      {"int=1 stop"},
		"int=1 stop int=2":                {"int=1 stop", "int=2"},
		"int=1 stop int=2 stop":           {"int=1 stop", "int=2 stop"},
		"stop int=1":                      {"stop", "int=1"},
		"append stop mark stop pop get=0": {"append stop", "mark stop", "pop get=0"},
		"int=1 stop stop int=2 int=3":     {"int=1 stop", "stop", "int=2 int=3"},
		repeated("mark", 299) + "stop":    {repeated("mark", 299) + "stop"},
		"stop " + repeated("int=19", 299): {"stop", repeated("int=19", 299)},
		repeated("int=1", 300):            {repeated("int=1", 300)},
		repeated("stop", 300):             slices.Repeat([]string{"stop"}, 300),
		repeated("int=1 stop", 150):       slices.Repeat([]string{"int=1 stop"}, 150),
	} {
		parts := impl.SplitStops(program(s))
		if !slices.EqualFunc(parts, want, func(part []impl.Op, s string) bool { return slices.Equal(part, program(s)) }) {
			t.Errorf("SplitStops(%s) = %v", s, parts)
		}
	}
}

func TestGivenStreams(t *testing.T) {
	for _, c := range []struct {
		s    string
		most int
		want []int
	}{
		{"", 1, nil},
		{"", 200, nil},
		{"stop", 1, []int{1, 19}},
		{"stop stop", 200, []int{1, 19, 1, 19}},
		{"int=5 stop", 200, []int{3, 0, 5, 19}},
		{"int=5 stop", 3, []int{3, 0, 5, 19}},
		{"int=5 stop", 2, []int{2, 0, 5, 1, 19}},
		{"int=5 stop", 1, []int{1, 0, 1, 5, 1, 19}},
		{"int=5", 200, []int{2, 0, 5}},
		{"int=5 stop int=6", 200, []int{3, 0, 5, 19, 2, 0, 6}},
		{"int=5 stop int=6 stop", 200, []int{3, 0, 5, 19, 3, 0, 6, 19}},
		{"int=5 stop int=6 stop", 2, []int{2, 0, 5, 1, 19, 2, 0, 6, 1, 19}},
		{"int=200 stop mark stop", 3, []int{3, 0, 200, 1, 1, 19, 2, 2, 19}},
		{"int=200 stop mark stop", 2, []int{2, 0, 200, 2, 1, 19, 2, 2, 19}},
	} {
		if got := impl.StreamBytes(program(c.s), c.most); !slices.Equal(got, c.want) {
			t.Errorf("StreamBytes(%s, %d) = %v", c.s, c.most, got)
		}
	}
}

func TestStreamsAgainstReference(t *testing.T) {
	d := &dice{state: 85}
	check := func(ops []impl.Op, most int) {
		before := slices.Clone(ops)
		if got, want := impl.StreamBytes(ops, most), wantStream(ops, most); !slices.Equal(got, want) {
			t.Errorf("StreamBytes(%v, %d) = %v, not %v", ops, most, got, want)
		}
		if !slices.Equal(ops, before) {
			t.Errorf("an argument has changed: %v, not %v", ops, before)
		}
	}
	for _, ops := range slices.Concat(edgePrograms(), edgeStreams(), longStreams(), writtenStreams(), widePrograms()) {
		for _, most := range []int{1, 2, 199, 200, 1 + d.below(200), 1 + d.below(20)} {
			check(ops, most)
		}
	}
	// The longest streams that there are, which are shorter than twice as many bytes as there may be.
	for s, size := range map[string]int{repeated("int=999", 300): 1800, repeated("int=999", 299) + "stop": 1796, repeated("int=999 stop", 150): 1200, repeated("stop", 300): 600} {
		if got := impl.StreamBytes(program(s), 1); len(got) != size {
			t.Errorf("StreamBytes(%v, 1) has %d bytes", program(s), len(got))
		}
	}
	for _, most := range []int{0, -1, 201, 202, 1000, math.MinInt, math.MaxInt} {
		for _, s := range []string{"", "stop", "int=5 stop", "int=5 stop int=6", repeated("int=999", 300)} {
			if got := impl.StreamBytes(program(s), most); got != nil {
				t.Errorf("StreamBytes(%s, %d) = %v", s, most, got)
			}
		}
	}
}

func TestGivenRecoveries(t *testing.T) {
	for _, c := range []struct {
		list []int
		want string
	}{
		{nil, ""},
		{[]int{3, 0, 5, 19}, "int=5 stop"},
		{[]int{1, 0, 1, 5, 1, 19}, "int=5 stop"},
		{[]int{4, 0, 5, 19, 19}, "int=5 stop stop"},
		{[]int{2, 19, 19}, "stop stop"},
		// Torn frames, and what is no frame.
		{[]int{3, 0, 5}, ""},
		{[]int{3, 0, 5, 19, 3}, "int=5 stop"},
		{[]int{3, 0, 5, 19, 3, 0}, "int=5 stop"},
		{[]int{3, 0, 5, 19, 3, 0, 6}, "int=5 stop"},
		{[]int{3, 0, 5, 19, 3, 0, 6, 19}, "int=5 stop int=6 stop"},
		{[]int{3, 0, 5, 19, 0}, "int=5 stop"},
		{[]int{3, 0, 5, 19, 0, 3, 0, 6, 19}, "int=5 stop"},
		{[]int{3, 0, 5, 19, 201, 3, 0, 6, 19}, "int=5 stop"},
		{[]int{0, 3, 0, 5, 19}, ""},
		// Torn orders, and what is no order.
		{[]int{2, 19, 0, 1, 19}, "stop"},
		{[]int{2, 19, 0, 2, 7, 19}, "stop int=7 stop"},
		{[]int{3, 0, 5, 19, 2, 20, 19}, "int=5 stop"},
		{[]int{3, 0, 5, 19, 4, 0, 133, 0, 19}, "int=5 stop"},
		{[]int{4, 0, 232, 7, 19}, ""},
		{[]int{1, 0, 1, 200, 1, 1, 1, 19}, "int=200 stop"},
		// Programs without an end.
		{[]int{2, 0, 5}, ""},
		{[]int{5, 0, 5, 19, 0, 6}, "int=5 stop"},
		{[]int{3, 0, 5, 19, 3, 0, 6, 2}, "int=5 stop"},
		// Orders that are not possible are orders.
		{[]int{3, 8, 19, 19}, "append stop stop"},
		{[]int{3, 0, 5, 19, 3, 8, 19, 2}, "int=5 stop append stop"},
	} {
		if got := impl.RecoverStream(c.list); !slices.Equal(got, program(c.want)) {
			t.Errorf("RecoverStream(%v) = %v", c.list, got)
		}
	}
}

func TestRecoveriesAgainstReference(t *testing.T) {
	nothing, some := 0, 0
	streamLists(func(list []int) {
		before := slices.Clone(list)
		want, _ := wantRecovered(list)
		got := impl.RecoverStream(list)
		if !slices.Equal(got, want) {
			t.Errorf("RecoverStream(%v) = %v, not %v", list, got, want)
		}
		if len(got) == 0 {
			nothing++
		} else {
			some++
		}
		if !slices.Equal(list, before) {
			t.Errorf("an argument has changed: %v, not %v", list, before)
		}
	})
	if nothing < 1000 || some < 1000 {
		t.Errorf("something is recovered of %d streams, and nothing of %d", some, nothing)
	}
}

// TestLimitsOfRecoveries is about as many bytes, in frames and with their numbers, and orders as there may be, and one more.
func TestLimitsOfRecoveries(t *testing.T) {
	just := fullStream(1000)
	for _, c := range []struct {
		list   []int
		orders int
		desk   string
	}{
		{fullStream(301), 300, "1\n"},
		{fullStream(999), 300, "1\n"},
		{just, 300, "1\n"},
		{fullStream(1001), 0, ""},
		{fullStream(1002), 0, ""},
		{fullStream(1990), 0, ""},
		// Torn frames do not count, as long as the list is not too long.
		{fullStream(1001)[:1006], 300, "1\n"},
		{fullStream(1200)[:1205], 300, "1\n"},
		{fullStream(1200), 0, ""},
		{append(slices.Clone(just), 1), 300, "1\n"},
		{append(slices.Clone(just), 1, 19), 0, ""},
		{append(slices.Clone(just), make([]int, 995)...), 300, "1\n"},
		{append(slices.Clone(just), make([]int, 996)...), 0, ""},
		{append([]int{3, 0, 5, 19}, make([]int, 1996)...), 2, "1\n"},
		{append([]int{3, 0, 5, 19}, make([]int, 1997)...), 0, ""},
		{make([]int, 2000), 0, "0\n"},
		{make([]int, 2001), 0, ""},
		{slices.Repeat([]int{1, 19}, 300), 300, "0\n"},
		{slices.Repeat([]int{1, 19}, 301), 300, "0\n"},
		{slices.Repeat([]int{1, 19}, 1000), 300, "0\n"},
		{append([]int{200, 0, 5, 19, 255}, slices.Repeat([]int{255}, 196)...), 2, "1\n"},
	} {
		if got := impl.RecoverStream(c.list); len(got) != c.orders {
			t.Errorf("RecoverStream(%v) = %v", c.list, got)
		}
		if got := impl.RunDesk(c.list, []string{"roots"}); got != c.desk {
			t.Errorf("RunDesk(%v) = %q", c.list, got)
		}
	}
	// The last order there may be is behind the last one to stop, or is it, or is one too many.
	for _, c := range []struct {
		s      string
		end    []int
		orders int
	}{
		{"int=1 stop" + repeated(" mark", 297), nil, 2},
		{"int=1 stop" + repeated(" mark", 297), []int{1, 19}, 300},
		{"int=1 stop" + repeated(" mark", 298), []int{1, 19}, 2},
		{"int=1 stop" + repeated(" mark", 298), []int{2, 19, 19}, 2},
	} {
		list := append(wantStream(program(c.s), 200), c.end...)
		if got := impl.RecoverStream(list); len(got) != c.orders {
			t.Errorf("RecoverStream(%v) = %v", list, got)
		}
	}
}

func TestGivenDesks(t *testing.T) {
	pair := wantStream(program("list put=0 mark text=7 put=1 get=1 appends stop get=1 stop int=5 stop"), 3)
	kinds := wantStream(program("int=1 stop text=1 stop tuple0 stop list stop dict stop new=1 stop"), 200)
	for _, c := range []struct {
		list  []int
		lines string
		want  string
	}{
		{nil, "roots,nodes,orders,kind 0", "0,0,0,none"},
		{pair, "roots,nodes,orders", "3,3,12"},
		{pair, "kind 0,kind 1,kind 2,kind 3", "list,text,int,none"},
		{kinds, "kind 5,kind 4,kind 3,kind 2,kind 1,kind 0,kind 6,kind 999", "obj,dict,list,tuple,text,int,none,none"},
		{kinds, "roots,roots,nodes,orders,orders", "6,6,6,12,12"},
		// A torn stream, and one that goes on behind its last root, or has none.
		{pair[:len(pair)-1], "roots,nodes,orders,kind 1,kind 2", "2,2,10,text,none"},
		{pair[:4], "roots,nodes,orders,kind 0", "0,0,0,none"},
		{[]int{3, 0, 5, 19, 2, 0, 6}, "roots,nodes,orders", "1,1,2"},
		{[]int{3, 0, 5, 19, 3, 8, 19, 19}, "roots,nodes,orders,kind 0", "1,1,2,int"},
		{[]int{5, 0, 5, 19, 19, 19, 3, 0, 5, 19}, "roots,nodes,orders", "1,1,2"},
		{[]int{1, 19}, "roots,nodes,orders,kind 0", "0,0,0,none"},
		{[]int{3, 0, 5, 2}, "roots,nodes,orders,kind 0", "0,0,0,none"},
		{[]int{9}, "roots,what", "0,what"},
		// A list that is changed behind a root, before the next one or without one.
		{wantStream(program("list put=0 stop get=0 int=5 append"), 9), "roots,nodes,orders", "1,1,3"},
		{wantStream(program("list put=0 stop get=0 int=5 append stop"), 9), "roots,nodes,orders,kind 1", "2,2,7,list"},
	} {
		want := strings.ReplaceAll(c.want, ",", "\n") + "\n"
		if got := impl.RunDesk(c.list, strings.Split(c.lines, ",")); got != want {
			t.Errorf("RunDesk(%v, %s) = %q", c.list, c.lines, got)
		}
	}
	// Greater indices, and more roots than a graph may be written with.
	many := wantStream(program("text=1 put=0 stop "+repeated("get=0 stop", 146)+"list stop new=9 stop"), 200)
	lines := []string{"roots", "nodes", "orders", "kind 0", "kind 9", "kind 10", "kind 99", "kind 100", "kind 146", "kind 147", "kind 148", "kind 149", "kind 0147"}
	want := "149\n3\n299\ntext\ntext\ntext\ntext\ntext\ntext\nlist\nobj\nnone\nwhat\n"
	if got := impl.RunDesk(many, lines); got != want {
		t.Errorf("RunDesk(%v, %q) = %q", many, lines, got)
	}
}

func TestDesksAgainstReference(t *testing.T) {
	var all []string
	for line := range deskLines() {
		all = append(all, line)
	}
	slices.Sort(all)
	d := &dice{state: 86}
	tornStreams(func(list []int) {
		lines := []string{"roots", "nodes", "orders", "kind 0", "kind 1", "kind 5"}
		for range d.below(15) {
			lines = append(lines, all[d.below(len(all))])
		}
		before := slices.Clone(lines)
		if got, want := impl.RunDesk(list, lines), wantDesk(list, lines); got != want {
			t.Errorf("RunDesk(%v, %q) = %q, not %q", list, lines, got, want)
		}
		if !slices.Equal(lines, before) {
			t.Errorf("an argument has changed: %q, not %q", lines, before)
		}
	})
	full := wantStream(program("text=1 put=0 stop "+repeated("get=0 stop", 148)+"int=1"), 200)
	for line, same := range deskLines() {
		for _, list := range [][]int{nil, {3, 0, 5, 19}, full} {
			got := impl.RunDesk(list, []string{line})
			if got != wantDesk(list, []string{line}) || same != "" && got != same+"\n" || same == "" && got == "what\n" {
				t.Errorf("RunDesk(%v, %q) = %q", list, line, got)
			}
		}
	}
}

func TestLimitsOfDesks(t *testing.T) {
	list := []int{3, 0, 5, 19}
	for count := range 21 {
		lines := slices.Repeat([]string{"orders"}, count)
		if got := impl.RunDesk(list, lines); got != strings.Repeat("2\n", count) {
			t.Errorf("RunDesk of %d lines = %q", count, got)
		}
	}
	for _, count := range []int{21, 22, 100, 1000} {
		for _, line := range []string{"orders", "", "help"} {
			for _, list := range [][]int{nil, list} {
				if got := impl.RunDesk(list, slices.Repeat([]string{line}, count)); got != "" {
					t.Errorf("RunDesk of %d lines %q = %q", count, line, got)
				}
			}
		}
	}
	for _, lines := range [][]string{nil, {}} {
		for _, list := range [][]int{nil, list, {256}, make([]int, 2001)} {
			if got := impl.RunDesk(list, lines); got != "" {
				t.Errorf("RunDesk(%v) without lines = %q", list, got)
			}
		}
	}
}

func TestInvalidStreams(t *testing.T) {
	for _, ops := range invalidPrograms() {
		// Whole programs before the others do not change that.
		for _, ops := range [][]impl.Op{ops, append(program("int=1 stop"), ops...)} {
			if g, roots, end := impl.ReadMany(ops); !isZero(g) || roots != nil || end != -1 {
				t.Errorf("ReadMany(%v) = %v, %v, %d", ops, g, roots, end)
			}
			if code := impl.ReadCode(ops); code != nil {
				t.Errorf("ReadCode(%v) = %v", ops, code)
			}
			if parts := impl.SplitStops(ops); parts != nil {
				t.Errorf("SplitStops(%v) = %v", ops, parts)
			}
			for _, most := range []int{-1, 0, 1, 200, 201} {
				if list := impl.StreamBytes(ops, most); list != nil {
					t.Errorf("StreamBytes(%v, %d) = %v", ops, most, list)
				}
			}
		}
	}
	for _, list := range append(noByteLists(), make([]int, 2001), append([]int{3, 0, 5, 19}, make([]int, 100000)...)) {
		for _, list := range [][]int{list, append([]int{3, 0, 5, 19}, list...)} {
			if ops := impl.RecoverStream(list); ops != nil {
				t.Errorf("RecoverStream(%v) = %v", list, ops)
			}
			for _, lines := range [][]string{nil, {""}, {"roots"}, {"help", "kind 0"}, make([]string, 20), make([]string, 21)} {
				if s := impl.RunDesk(list, lines); s != "" {
					t.Errorf("RunDesk(%v, %q) = %q", list, lines, s)
				}
			}
		}
	}
}

// spoilOps writes over a program and its spare capacity.
func spoilOps(ops []impl.Op) {
	ops = ops[:cap(ops)]
	for i := range ops {
		ops[i] = impl.Op{Code: -99, Arg: -99}
	}
}

// TestFreshStreams writes over all memory of the results, and looks at the arguments and at the next results.
func TestFreshStreams(t *testing.T) {
	g, roots := graph(1, text(7), list(0, 0), object(3, 1)), []int{2, 0, 1}
	ops := wantMany(g, roots, 1)
	list := wantStream(ops, 3)
	gBefore, rootsBefore, opsBefore, listBefore := copied(g), slices.Clone(roots), slices.Clone(ops), slices.Clone(list)
	for _, f := range []func() []int{
		func() []int { return impl.CodeMany(g, roots) },
		func() []int { return impl.ReadCode(ops) },
		func() []int { return impl.StreamBytes(ops, 3) },
		func() []int { return impl.StreamBytes(ops, 200) },
		func() []int { _, roots, _ := impl.ReadMany(ops); return roots },
	} {
		want := slices.Clone(f())
		spoil(f())
		if got := f(); len(got) == 0 || !slices.Equal(got, want) {
			t.Errorf("%v is %v after its result was changed", want, got)
		}
	}
	for _, f := range []func() []impl.Op{
		func() []impl.Op { return impl.WriteMany(g, roots, 0) },
		func() []impl.Op { return impl.RecoverStream(list) },
		func() []impl.Op { return impl.RecoverStream(list[:len(list)-1]) },
	} {
		want := slices.Clone(f())
		spoilOps(f())
		if got := f(); len(got) == 0 || !slices.Equal(got, want) {
			t.Errorf("%v is %v after its result was changed", want, got)
		}
	}
	checkFresh(t, func() impl.Graph { g, _, _ := impl.ReadMany(ops); return g })
	// The nodes share no memory with the roots.
	got, gotRoots, _ := impl.ReadMany(ops)
	spoil(gotRoots)
	if want, _, _ := impl.ReadMany(ops); !identical(got, want) {
		t.Errorf("ReadMany(%v) = %v, and %v after its roots were changed", ops, want, got)
	}
	checkFreshParts(t, ops)
	if !identical(g, gBefore) || !slices.Equal(roots, rootsBefore) || !slices.Equal(ops, opsBefore) || !slices.Equal(list, listBefore) {
		t.Errorf("the arguments have changed: %v, %v, %v and %v", g, roots, ops, list)
	}
}

// checkFreshParts writes over each part alone, and looks at the others and at the program.
func checkFreshParts(t *testing.T, ops []impl.Op) {
	t.Helper()
	before := slices.Clone(ops)
	want := wantSplit(ops)
	for i := range want {
		parts := impl.SplitStops(ops)
		spoilOps(parts[i])
		parts[i] = want[i]
		if !slices.EqualFunc(parts, want, slices.Equal) || !slices.Equal(ops, before) {
			t.Errorf("the part %d of %v shares memory", i, before)
		}
	}
	parts := impl.SplitStops(ops)
	clear(parts[:cap(parts)])
	if !slices.EqualFunc(impl.SplitStops(ops), want, slices.Equal) {
		t.Errorf("the parts of %v are kept", before)
	}
}
