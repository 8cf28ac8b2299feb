package tests

import (
	"fmt"
	"slices"
	"strings"
	"testing"

	"loop.example/graphcode/impl"
)

// manyWritten calls try with the programs of roots of many valid graphs by both levels, and with these.
func manyWritten(t *testing.T, try func(g impl.Graph, roots []int, level int, ops []impl.Op)) {
	t.Helper()
	count := 0
	rootings(func(g impl.Graph, roots []int) {
		for level := range 2 {
			if ops := impl.WriteMany(g, roots, level); len(ops) > 0 {
				count++
				try(g, roots, level, ops)
			}
		}
	})
	if count < 10000 {
		t.Errorf("only %d programs are written", count)
	}
}

func TestPromise67StreamsBeginWithPrograms(t *testing.T) {
	none := 0
	rootings(func(g impl.Graph, roots []int) {
		for level := range 2 {
			ops := impl.WriteMany(g, roots, level)
			if len(roots) == 0 {
				none++
				if len(ops) > 0 {
					t.Errorf("WriteMany(%v, [], %d) = %v", g, level, ops)
				}
				continue
			}
			first := impl.WriteGraph(rooted(g, roots[0]), level)
			if len(ops) == 0 {
				// What is too long stays so with further roots.
				if len(wantFullOf(g.Nodes, roots, level)) <= 300 {
					t.Errorf("WriteMany(%v, %v, %d) = %v", g, roots, level, ops)
				}
				continue
			}
			if len(first) == 0 || !begins(first, ops) || countOf(ops, impl.OcStop) != len(roots) || !impl.ValidOps(ops) {
				t.Errorf("WriteMany(%v, %v, %d) = %v, and WriteGraph = %v", g, roots, level, ops, first)
			}
			if one := impl.WriteMany(g, roots[:1], level); !slices.Equal(one, first) {
				t.Errorf("WriteMany(%v, %v, %d) = %v, and WriteGraph = %v", g, roots[:1], level, one, first)
			}
			// With fewer roots it is the beginning, too.
			for count := range roots {
				if early := impl.WriteMany(g, roots[:count], level); !begins(early, ops) || countOf(early, impl.OcStop) != count {
					t.Errorf("WriteMany(%v, %v, %d) = %v, and of the first %d roots it is %v", g, roots, level, ops, count, early)
				}
			}
		}
	})
	if none < 1000 {
		t.Errorf("only %d graphs are written without roots", none)
	}
	// What is no list of roots has no program, though its beginning has one.
	g := graph(0, text(1), list(0))
	for _, roots := range invalidRoots(2) {
		if ops := impl.WriteMany(g, roots, 0); ops != nil {
			t.Errorf("WriteMany(%v, %v, 0) = %v", g, roots, ops)
		}
	}
	for _, level := range []int{-1, 2} {
		if ops := impl.WriteMany(g, []int{1, 0}, level); ops != nil {
			t.Errorf("WriteMany(%v, [1 0], %d) = %v", g, level, ops)
		}
	}
	invalidGraphs(t, func(g impl.Graph) {
		if ops := impl.WriteMany(g, []int{0}, 0); ops != nil {
			t.Errorf("WriteMany(%v, [0], 0) = %v", g, ops)
		}
	})
}

func TestPromise68StreamsAreReadBack(t *testing.T) {
	shared := 0
	manyWritten(t, func(g impl.Graph, roots []int, level int, ops []impl.Op) {
		code := impl.CodeMany(g, roots)
		if got := impl.ReadCode(ops); !slices.Equal(got, code) || len(code) == 0 {
			t.Errorf("ReadCode of WriteMany(%v, %v, %d) = %v, and CodeMany = %v", g, roots, level, got, code)
		}
		_, read, end := impl.ReadMany(ops)
		if len(read) != len(roots) || end != len(ops) {
			t.Errorf("ReadMany of WriteMany(%v, %v, %d) has the roots %v, of %d orders", g, roots, level, read, end)
		}
		// Where roots have something in common, their codes are not those of each alone.
		var alone []int
		for _, root := range roots {
			alone = append(alone, impl.CodeOf(rooted(g, root))...)
		}
		if !slices.Equal(alone, code) {
			shared++
		}
	})
	if shared < 1000 {
		t.Errorf("only %d streams share something", shared)
	}
	// Two texts that are equal stay two, and one that two roots share stays one.
	two, one := graph(0, list(2), list(3), text(5), text(5)), graph(0, list(2), list(2), text(5))
	for level := range 2 {
		if code := impl.ReadCode(impl.WriteMany(two, []int{0, 1}, level)); !slices.Equal(code, []int{3, 0, 1, 1, 5, 0, 3, 0, 1, 1, 5, 0}) {
			t.Errorf("ReadCode of WriteMany(%v, [0 1], %d) = %v", two, level, code)
		}
		if code := impl.ReadCode(impl.WriteMany(one, []int{0, 1}, level)); !slices.Equal(code, []int{3, 0, 1, 1, 5, 0, 3, 0, 1, -1, 1}) {
			t.Errorf("ReadCode of WriteMany(%v, [0 1], %d) = %v", one, level, code)
		}
	}
	for _, ops := range invalidPrograms() {
		if code := impl.ReadCode(ops); code != nil {
			t.Errorf("ReadCode(%v) = %v", ops, code)
		}
	}
}

func TestPromise69WhatWasWrittenIsNotWrittenAgain(t *testing.T) {
	again, kids, tooLong := 0, 0, 0
	manyWritten(t, func(g impl.Graph, roots []int, level int, ops []impl.Op) {
		if len(roots) == 5 {
			return
		}
		// What was met from one of the roots was written, too.
		for at, i := range wantReach(rooted(g, roots[0])) {
			more := impl.WriteMany(g, append(slices.Clone(roots), i), level)
			if len(ops)+2 > 300 {
				tooLong++
				if more != nil {
					t.Errorf("WriteMany(%v, %v and %d, %d) = %v", g, roots, i, level, more)
				}
				continue
			}
			if len(more) != len(ops)+2 || !begins(ops, more) || more[len(ops)+1].Code != impl.OcStop {
				t.Errorf("WriteMany(%v, %v, %d) = %v, and with the root %d again %v", g, roots, level, ops, i, more)
				continue
			}
			code := impl.OcGet
			if g.Nodes[i].Kind == impl.NkInt {
				code = impl.OcInt
			} else if at == 0 {
				again++
			} else {
				kids++
			}
			if more[len(ops)].Code != code {
				t.Errorf("WriteMany(%v, %v, %d) = %v, and with the root %d again %v", g, roots, level, ops, i, more)
			}
		}
	})
	if again < 1000 || kids < 1000 || tooLong == 0 {
		t.Errorf("%d roots are written again, %d kids as roots, and %d programs are too long", again, kids, tooLong)
	}
	// The same root five times, and once more.
	g := graph(0, list(1, 0), text(3))
	for level := range 2 {
		once := len(impl.WriteGraph(g, level))
		for count := 1; count <= 5; count++ {
			if ops := impl.WriteMany(g, make([]int, count), level); len(ops) != once+2*(count-1) {
				t.Errorf("WriteMany of the same root %d times = %v", count, ops)
			}
		}
		if ops := impl.WriteMany(g, make([]int, 6), level); ops != nil {
			t.Errorf("WriteMany of the same root six times = %v", ops)
		}
	}
}

func TestPromise70ReadingStopsWhereItMust(t *testing.T) {
	whole, goingOn := 0, 0
	streamed(func(ops []impl.Op) {
		g, roots, end := impl.ReadMany(ops)
		if end < 0 || end > len(ops) || end > 0 && ops[end-1].Code != impl.OcStop || len(roots) != countOf(ops[:max(end, 0)], impl.OcStop) {
			t.Fatalf("ReadMany(%v) = %v, %v, %d", ops, g, roots, end)
		}
		again, rootsAgain, endAgain := impl.ReadMany(ops[:end])
		if !identical(again, g) || !slices.Equal(rootsAgain, roots) || endAgain != end {
			t.Errorf("ReadMany(%v) = %v, %v, %d, and of these orders %v, %v, %d", ops, g, roots, end, again, rootsAgain, endAgain)
		}
		if end > 0 && end < len(ops) {
			goingOn++
		}
		if slices.ContainsFunc(roots, func(root int) bool { return root < 0 || root >= len(g.Nodes) }) || g.Root != 0 || len(roots) == 0 && g.Nodes != nil {
			t.Errorf("ReadMany(%v) = %v, %v, %d", ops, g, roots, end)
		}
		built, ok := impl.BuildGraph(ops)
		if !ok {
			return
		}
		whole++
		if !identical(g, rooted(built, 0)) || !slices.Equal(roots, []int{built.Root}) || end != len(ops) {
			t.Errorf("ReadMany(%v) = %v, %v, %d, and BuildGraph = %v", ops, g, roots, end, built)
		}
	})
	if whole < 500 || goingOn < 500 {
		t.Errorf("%d programs are whole, and %d go on behind their last root", whole, goingOn)
	}
	// What is done behind the last root does not change its graph, neither with new nodes nor without.
	for _, s := range []string{"list put=0 stop get=0 int=5 append get=0 append int=7 put=1 pop", "list put=0 stop get=0 get=0 append mark get=0 get=0 appends"} {
		ops := program(s)
		for at := 3; at <= len(ops); at++ {
			if g, roots, end := impl.ReadMany(ops[:at]); !identical(g, graph(0, list())) || !slices.Equal(roots, []int{0}) || end != 3 {
				t.Errorf("ReadMany(%v) = %v, %v, %d", ops[:at], g, roots, end)
			}
		}
	}
	for _, ops := range invalidPrograms() {
		if g, roots, end := impl.ReadMany(ops); !isZero(g) || roots != nil || end != -1 {
			t.Errorf("ReadMany(%v) = %v, %v, %d", ops, g, roots, end)
		}
	}
}

func TestPromise71TornProgramsHaveTheFirstRoots(t *testing.T) {
	d := &dice{state: 87}
	fewer := 0
	streamed(func(ops []impl.Op) {
		_, roots, end := impl.ReadMany(ops)
		for _, at := range cutsOf(len(ops), d) {
			_, first, early := impl.ReadMany(ops[:at])
			// All roots are there of which the order to stop is.
			if !begins(first, roots) || len(first) != countOf(ops[:min(at, end)], impl.OcStop) || early > min(at, end) {
				t.Errorf("ReadMany(%v) = %v, %d, and of the first %d orders %v, %d", ops, roots, end, at, first, early)
			}
			if len(first) > 0 && len(first) < len(roots) {
				fewer++
			}
		}
	})
	if fewer < 1000 {
		t.Errorf("only %d programs have fewer roots when they are torn", fewer)
	}
	ops := program("int=1 stop int=2 put=0 stop get=0 stop int=3 int=4 stop int=5 stop")
	want := []int{0, 0, 1, 1, 1, 2, 2, 3, 3, 3, 3, 3, 3}
	for at := range len(ops) + 1 {
		if _, roots, _ := impl.ReadMany(ops[:at]); !slices.Equal(roots, []int{0, 1, 1}[:want[at]]) {
			t.Errorf("ReadMany(%v) has the roots %v", ops[:at], roots)
		}
	}
}

func TestPromise72CodesOfRootsBeginAlike(t *testing.T) {
	rootings(func(g impl.Graph, roots []int) {
		code := impl.CodeMany(g, roots)
		if (len(code) == 0) != (len(roots) == 0) {
			t.Errorf("CodeMany(%v, %v) = %v", g, roots, code)
		}
		for count := range len(roots) + 1 {
			early := impl.CodeMany(g, roots[:count])
			if !begins(early, code) || count < len(roots) && len(early) == len(code) {
				t.Errorf("CodeMany(%v, %v) = %v, and of the first %d roots %v", g, roots, code, count, early)
			}
		}
		for _, root := range append(slices.Clone(roots), g.Root) {
			if one := impl.CodeMany(g, []int{root}); !slices.Equal(one, impl.CodeOf(rooted(g, root))) {
				t.Errorf("CodeMany(%v, [%d]) = %v, and CodeOf = %v", g, root, one, impl.CodeOf(rooted(g, root)))
			}
		}
		// A root that was met before is told by its number, and one of a number is written anew.
		if len(roots) > 0 && len(roots) < 5 {
			n := g.Nodes[roots[0]]
			end := []int{-1, 0}
			if n.Kind == impl.NkInt {
				end = []int{impl.NkInt, n.Value, 0}
			}
			if more := impl.CodeMany(g, append(slices.Clone(roots), roots[0])); !slices.Equal(more, append(slices.Clone(code), end...)) {
				t.Errorf("CodeMany(%v, %v) = %v, and with the first root again %v", g, roots, code, more)
			}
		}
		for _, roots := range invalidRoots(len(g.Nodes)) {
			if code := impl.CodeMany(g, roots); code != nil {
				t.Errorf("CodeMany(%v, %v) = %v", g, roots, code)
			}
		}
	})
	invalidGraphs(t, func(g impl.Graph) {
		if code := impl.CodeMany(g, []int{0}); code != nil {
			t.Errorf("CodeMany(%v, [0]) = %v", g, code)
		}
	})
}

func TestPromise73CodesAreRead(t *testing.T) {
	whole, invalid := 0, 0
	check := func(ops []impl.Op) {
		code, ok := impl.BuiltCode(ops)
		if !ok {
			return
		}
		whole++
		if g, _ := impl.BuildGraph(ops); !impl.ValidGraph(g) {
			invalid++
		}
		if got := impl.ReadCode(ops); !slices.Equal(got, code) || !impl.IsWhole(ops) {
			t.Errorf("ReadCode(%v) = %v, and BuiltCode = %v", ops, got, code)
		}
		// What is behind the end is not told, unless it is a further root.
		if len(ops) > 298 {
			return
		}
		for _, s := range []string{"stop", "pop", "int=1", "int=1 int=2", "mark stop"} {
			if got := impl.ReadCode(append(slices.Clone(ops), program(s)...)); !slices.Equal(got, code) {
				t.Errorf("ReadCode(%v) with %s behind it is %v, not %v", ops, s, got, code)
			}
		}
		if got := impl.ReadCode(append(slices.Clone(ops), program("int=8 stop")...)); !slices.Equal(got, append(slices.Clone(code), 0, 8, 0)) {
			t.Errorf("ReadCode(%v) with a further root is %v", ops, got)
		}
	}
	streamed(check)
	written(t, func(_ impl.Graph, _ int, ops []impl.Op) { check(ops) })
	if whole < 10000 || invalid < 300 {
		t.Errorf("%d programs are whole, and the graphs of %d are not valid", whole, invalid)
	}
	for _, s := range programsOfNoGraph() {
		ops := program(s)
		_, roots, _ := wantReadMany(ops)
		if code := impl.ReadCode(ops); (len(code) == 0) != (len(roots) == 0) {
			t.Errorf("ReadCode(%s) = %v", s, code)
		}
	}
	for _, ops := range invalidPrograms() {
		if code := impl.ReadCode(ops); code != nil {
			t.Errorf("ReadCode(%v) = %v", ops, code)
		}
	}
}

func TestPromise74PartsAreTheProgram(t *testing.T) {
	ended, open := 0, 0
	check := func(ops []impl.Op) {
		parts := impl.SplitStops(ops)
		if !slices.Equal(slices.Concat(parts...), ops) {
			t.Errorf("SplitStops(%v) = %v", ops, parts)
		}
		for i, part := range parts {
			stops := countOf(part, impl.OcStop)
			isEnded := len(part) > 0 && part[len(part)-1].Code == impl.OcStop
			if len(part) == 0 || isEnded && stops != 1 || !isEnded && (stops != 0 || i < len(parts)-1) {
				t.Errorf("SplitStops(%v) = %v", ops, parts)
			}
			if i == len(parts)-1 && isEnded {
				ended++
			} else if i == len(parts)-1 {
				open++
			}
		}
	}
	streamed(check)
	for _, ops := range widePrograms() {
		check(ops)
	}
	if ended < 1000 || open < 1000 {
		t.Errorf("%d last parts are ended, and %d are not", ended, open)
	}
	if parts := impl.SplitStops(nil); len(parts) != 0 {
		t.Errorf("SplitStops of no orders = %v", parts)
	}
	for _, ops := range invalidPrograms() {
		if parts := impl.SplitStops(ops); parts != nil {
			t.Errorf("SplitStops(%v) = %v", ops, parts)
		}
	}
}

// streams calls try with the streams of many programs, in frames of at most as many bytes as are told.
func streams(try func(ops []impl.Op, most int, list []int)) {
	d := &dice{state: 88}
	streamed(func(ops []impl.Op) {
		for _, most := range []int{1, 200, 1 + d.below(10), 1 + d.below(200)} {
			try(ops, most, impl.StreamBytes(ops, most))
		}
	})
	for _, ops := range widePrograms() {
		try(ops, 1, impl.StreamBytes(ops, 1))
		try(ops, 200, impl.StreamBytes(ops, 200))
	}
}

func TestPromise75StreamsAreReadBack(t *testing.T) {
	cut, all := 0, 0
	streams(func(ops []impl.Op, most int, list []int) {
		want := upToStop(ops)
		if got := impl.RecoverStream(list); !slices.Equal(got, want) {
			t.Errorf("RecoverStream of StreamBytes(%v, %d) = %v", ops, most, got)
		}
		if len(want) < len(ops) {
			cut++
		} else if len(ops) > 0 {
			all++
		}
		// Each part begins with a frame of its own, and no frame has too many bytes.
		content, ok := impl.UnframeBytes(list)
		if !ok || !slices.Equal(content, impl.EncodeOps(ops)) {
			t.Errorf("StreamBytes(%v, %d) = %v", ops, most, list)
		}
		var framed []int
		for _, part := range impl.SplitStops(ops) {
			framed = append(framed, impl.FrameBytes(impl.EncodeOps(part), most)...)
		}
		if !slices.Equal(list, framed) || len(list) > 2*impl.MaxBytes {
			t.Errorf("StreamBytes(%v, %d) = %v, not %v", ops, most, list, framed)
		}
	})
	if cut < 1000 || all < 1000 {
		t.Errorf("%d programs are recovered in part, and %d are whole", cut, all)
	}
	for _, ops := range invalidPrograms() {
		if list := impl.StreamBytes(ops, 1); list != nil {
			t.Errorf("StreamBytes(%v, 1) = %v", ops, list)
		}
	}
	for _, most := range []int{-1, 0, 201} {
		if list := impl.StreamBytes(program("int=1 stop"), most); list != nil {
			t.Errorf("StreamBytes in frames of %d = %v", most, list)
		}
	}
}

func TestPromise76TornStreamsLoseOnlyTheirEnd(t *testing.T) {
	d := &dice{state: 89}
	less := 0
	check := func(list []int, cuts []int) {
		whole := impl.RecoverStream(list)
		for _, at := range cuts {
			early := impl.RecoverStream(list[:at])
			if !begins(early, whole) || len(early) > 0 && early[len(early)-1].Code != impl.OcStop {
				t.Errorf("RecoverStream(%v) = %v, and of the first %d bytes it is %v", list, whole, at, early)
			}
			// Nothing more is lost than what has no end in the frames that are whole.
			content, _ := impl.UnframeTorn(list[:at])
			ops, _ := impl.DecodeTorn(content)
			if !slices.Equal(early, upToStop(ops)) {
				t.Errorf("RecoverStream of the first %d bytes of %v is %v, not of %v", at, list, early, ops)
			}
			if len(early) > 0 && len(early) < len(whole) {
				less++
			}
		}
	}
	streams(func(_ []impl.Op, _ int, list []int) { check(list, cutsOf(len(list), d)[:min(4, len(list)+1)]) })
	for _, ops := range slices.Concat(edgeStreams(), writtenStreams()[:40]) {
		list := impl.StreamBytes(ops, 1+d.below(30))
		check(list, d.order(len(list)+1))
	}
	if less < 1000 {
		t.Errorf("only %d streams lose a part", less)
	}
	// A part is kept as soon as its last byte is there.
	list := impl.StreamBytes(program("int=5 stop int=200 stop"), 2)
	for at := range len(list) + 1 {
		want := 0
		if at >= 5 {
			want = 2
		}
		if at >= 11 {
			want = 4
		}
		if got := impl.RecoverStream(list[:at]); len(got) != want {
			t.Errorf("RecoverStream(%v) = %v", list[:at], got)
		}
	}
	for _, list := range append(noByteLists(), make([]int, 2001), fullStream(1001)) {
		if got := impl.RecoverStream(list); got != nil {
			t.Errorf("RecoverStream(%v) = %v", list, got)
		}
	}
}

func TestPromise77FromGraphsToTornStreamsAndBack(t *testing.T) {
	d := &dice{state: 90}
	lost := make([]int, 6)
	check := func(g impl.Graph, roots []int, most int, list []int, at int) {
		back := impl.RecoverStream(list[:at])
		count := countOf(back, impl.OcStop)
		if code := impl.ReadCode(back); count > len(roots) || !slices.Equal(code, impl.CodeMany(g, roots[:count])) {
			t.Errorf("of the first %d bytes of the stream of %v and %v in frames of %d, the code is %v", at, g, roots, most, code)
			return
		}
		if at == len(list) && count < len(roots) {
			t.Errorf("of the stream of %v and %v in frames of %d, %d roots are recovered", g, roots, most, count)
		}
		lost[len(roots)-count]++
	}
	manyWritten(t, func(g impl.Graph, roots []int, _ int, ops []impl.Op) {
		most := 1 + d.below(1+d.below(200))
		list := impl.StreamBytes(ops, most)
		check(g, roots, most, list, len(list))
		check(g, roots, most, list, len(list)-1)
		for range 3 {
			check(g, roots, most, list, d.below(len(list)))
		}
	})
	if slices.Min(lost) < 1000 {
		t.Errorf("so many roots are lost of streams: %v", lost)
	}
	// Each stream of a knot, torn anywhere: the roots are there as soon as their frames are.
	for _, g := range knots() {
		for level := range 2 {
			roots := d.rootLists(g)[3]
			ops := impl.WriteMany(g, roots, level)
			for _, most := range []int{1, 2, 5, 200} {
				list := impl.StreamBytes(ops, most)
				for at := range len(list) + 1 {
					check(g, roots, most, list, at)
					ends := 0
					for count := range roots {
						if at >= len(impl.StreamBytes(impl.WriteMany(g, roots[:count+1], level), most)) {
							ends++
						}
					}
					if _, read, _ := impl.ReadMany(impl.RecoverStream(list[:at])); len(read) != ends {
						t.Errorf("of the first %d bytes of the stream of %v and %v, %d roots are read, not %d", at, g, roots, len(read), ends)
					}
				}
			}
		}
	}
}

func TestPromise78EachLineHasAnAnswer(t *testing.T) {
	var all []string
	for line := range deskLines() {
		all = append(all, line)
	}
	slices.Sort(all)
	d := &dice{state: 91}
	answered, not := 0, 0
	check := func(list []int) {
		lines := []string{"roots", "nodes", "orders"}
		for range d.below(18) {
			lines = append(lines, all[d.below(len(all))])
		}
		out := impl.RunDesk(list, lines)
		if strings.Count(out, "\n") != len(lines) && out != "" || out != "" && !strings.HasSuffix(out, "\n") {
			t.Errorf("RunDesk(%v, %q) = %q", list, lines, out)
		}
		for count := range lines {
			if early := impl.RunDesk(list, lines[:count]); !strings.HasPrefix(out, early) || (early == "") != (out == "" || count == 0) {
				t.Errorf("RunDesk(%v, %q) = %q, and of the first %d lines it is %q", list, lines, out, count, early)
			}
		}
		// All that is told is what ReadMany tells of what is recovered.
		if out == "" {
			not++
			return
		}
		answered++
		g, roots, end := impl.ReadMany(impl.RecoverStream(list))
		if want := fmt.Sprintf("%d\n%d\n%d\n", len(roots), len(g.Nodes), end); !strings.HasPrefix(out, want) {
			t.Errorf("RunDesk(%v, %q) = %q, and ReadMany = %v, %v, %d", list, lines, out, g, roots, end)
		}
		for i, root := range roots[:min(len(roots), 20)] {
			name := []string{"int", "text", "tuple", "list", "dict", "obj"}[g.Nodes[root].Kind]
			if got := impl.RunDesk(list, []string{fmt.Sprint("kind ", i)}); got != name+"\n" {
				t.Errorf("RunDesk(%v) = %q for the root %d", list, got, i)
			}
		}
		if got := impl.RunDesk(list, []string{fmt.Sprint("kind ", len(roots))}); got != "none\n" {
			t.Errorf("RunDesk(%v) = %q for the root %d", list, got, len(roots))
		}
	}
	tornStreams(check)
	for _, list := range append(noByteLists(), make([]int, 2001), fullStream(1001)) {
		check(list)
		if got := impl.RunDesk(list, []string{"roots", "help"}); got != "" {
			t.Errorf("RunDesk(%v) = %q", list, got)
		}
	}
	if answered < 1000 || not < 100 {
		t.Errorf("%d streams are answered for, and %d are not", answered, not)
	}
	for line, same := range deskLines() {
		if got := impl.RunDesk(nil, []string{line}); strings.Count(got, "\n") != 1 || same != "" && got != same+"\n" {
			t.Errorf("RunDesk of no bytes for %q is %q", line, got)
		}
	}
	// Twenty lines, and one more.
	lines := slices.Repeat([]string{"what\nis it"}, 21)
	if got := impl.RunDesk(nil, lines[:20]); got != strings.Repeat("what\n", 20) || impl.RunDesk(nil, lines) != "" {
		t.Errorf("RunDesk of %q = %q", lines[:20], got)
	}
}
