package tests

import (
	"math"
	"slices"
	"testing"

	"loop.example/graphcode/impl"
)

// TestGivenShapes has what is known of programs by kinds, written by hand.
func TestGivenShapes(t *testing.T) {
	const i, s, t2, l, d, o = impl.NkInt, impl.NkText, impl.NkTuple, impl.NkList, impl.NkDict, impl.NkObj
	for _, c := range []struct {
		s     string
		count int
		kinds []int
		full  []int
		stack []int
		memo  []int
		done  bool
	}{
		{"", 0, nil, nil, nil, nil, false},
		{"int=999", 1, []int{i}, nil, []int{0}, nil, false},
		{"text=9 stop", 2, []int{s}, nil, []int{0}, nil, true},
		{"mark", 1, nil, nil, []int{-1}, nil, false},
		{"mark mark tuple", 3, []int{t2}, nil, []int{-1, 0}, nil, false},
		{"mark int=1 text=2 tuple stop", 5, []int{i, s, t2}, nil, []int{2}, nil, true},
		{"tuple0 tuple1 list tuple2", 4, []int{t2, t2, l, t2}, nil, []int{3}, nil, false},
		{"list int=1 append mark text=1 dict appends", 7, []int{l, i, s, d}, nil, []int{0}, nil, false},
		{"dict int=1 list setitem mark text=1 tuple0 int=1 new setitems", 10, []int{d, i, l, s, t2, i, o}, nil, []int{0}, nil, false},
		{"dict mark setitems", 3, []int{d}, nil, []int{0}, nil, false},
		{"new=1 new=2 state", 3, []int{o, o}, []int{0}, []int{0}, nil, false},
		{"new=1 put=5 get=5 state", 4, []int{o}, []int{0}, []int{0}, []int{-1, -1, -1, -1, -1, 0}, false},
		{"new=1 put=0 int=1 state int=2 get=0", 6, []int{o, i, i}, []int{0}, []int{0, 2, 0}, []int{0}, false},
		{"int=1 new new int=1 state state", 6, []int{i, o, o, i}, []int{1, 2}, []int{0, 1}, nil, false},
		{"int=1 put=1 pop get=1 put=0 get=1 stop", 6, []int{i}, nil, []int{0, 0}, []int{0, 0}, false},
		{"int=1 mark int=2 mark int=3 int=4 popmark pop popmark", 9, []int{i, i, i, i}, nil, []int{0}, nil, false},
		// A key that is set twice is no new thing for what is known by kinds.
		{"dict int=1 int=2 setitem int=1 int=3 setitem stop", 8, []int{d, i, i, i, i}, nil, []int{0}, nil, true},
		// What is not possible is not done in part.
		{"dict mark int=1 int=2 int=3 setitems", 5, []int{d, i, i, i}, nil, []int{0, -1, 1, 2, 3}, nil, false},
		{"dict mark int=1 int=2 list int=3 setitems", 6, []int{d, i, i, l, i}, nil, []int{0, -1, 1, 2, 3, 4}, nil, false},
		{"list list int=1 setitem stop", 3, []int{l, l, i}, nil, []int{0, 1, 2}, nil, false},
		{"new int=1 state text=2 state stop", 4, []int{o, i, s}, []int{0}, []int{0, 2}, nil, false},
		{"int=1 mark put=3", 2, []int{i}, nil, []int{0, -1}, nil, false},
		{"int=1 put=3 get=4", 2, []int{i}, nil, []int{0}, []int{-1, -1, -1, 0}, false},
		{"int=1 stop int=2", 2, []int{i}, nil, []int{0}, nil, true},
		{"int=1 stop stop", 2, []int{i}, nil, []int{0}, nil, true},
		{"int=1 stop mark", 2, []int{i}, nil, []int{0}, nil, true},
		{"mark int=1 stop", 2, []int{i}, nil, []int{-1, 0}, nil, false},
	} {
		want := impl.Shapes{Kinds: c.kinds, Full: make([]bool, len(c.kinds)), Stack: c.stack, Memo: memo(c.memo...), Done: c.done}
		for _, at := range c.full {
			want.Full[at] = true
		}
		if got, count := impl.ShapesOf(program(c.s)); count != c.count || !identicalShapes(got, want) {
			t.Errorf("ShapesOf of %s = %v, %d", c.s, got, count)
		}
	}
}

// TestGivenChecks has programs with the index of the first bad order, and the things and marks after each that is possible.
func TestGivenChecks(t *testing.T) {
	for _, c := range []struct {
		s             string
		bad           int
		whole         bool
		depths, marks []int
	}{
		{"", -1, false, nil, nil},
		{"stop", 0, false, nil, nil},
		{"pop", 0, false, nil, nil},
		{"int=1", -1, false, []int{1}, []int{0}},
		{"int=1 stop", -1, true, []int{1, 1}, []int{0, 0}},
		{"int=1 stop stop", 2, false, []int{1, 1}, []int{0, 0}},
		{"int=1 stop int=1 stop", 2, false, []int{1, 1}, []int{0, 0}},
		{"mark", -1, false, []int{1}, []int{1}},
		{"mark stop", 1, false, []int{1}, []int{1}},
		{"mark int=1 tuple stop", -1, true, []int{1, 2, 1, 1}, []int{1, 1, 0, 0}},
		{"mark mark mark tuple tuple tuple stop", -1, true, []int{1, 2, 3, 3, 2, 1, 1}, []int{1, 2, 3, 2, 1, 0, 0}},
		{"mark int=1 int=2 mark int=3 popmark popmark", -1, false, []int{1, 2, 3, 4, 5, 3, 0}, []int{1, 1, 1, 2, 2, 1, 0}},
		{"list mark int=1 int=1 int=1 appends stop", -1, true, []int{1, 2, 3, 4, 5, 1, 1}, []int{0, 1, 1, 1, 1, 0, 0}},
		{"dict mark int=1 int=1 setitems int=1 int=1 setitem stop", -1, true, []int{1, 2, 3, 4, 1, 2, 3, 1, 1}, []int{0, 1, 1, 1, 0, 0, 0, 0, 0}},
		{"dict mark int=1 setitems stop", 3, false, []int{1, 2, 3}, []int{0, 1, 1}},
		{"int=1 tuple1 int=1 tuple2 put=0 get=0 pop stop", -1, true, []int{1, 1, 2, 1, 1, 2, 1, 1}, make([]int, 8)},
		{"new int=1 state list append", 4, false, []int{1, 2, 1, 2}, make([]int, 4)},
		{"new int=1 state tuple0 mark append", 5, false, []int{1, 2, 1, 2, 3}, []int{0, 0, 0, 0, 1}},
		{"int=1 append list", 1, false, []int{1}, []int{0}},
		{"get=0 int=1 stop", 0, false, nil, nil},
	} {
		ops := program(c.s)
		if bad, whole := impl.FirstBad(ops), impl.IsWhole(ops); bad != c.bad || whole != c.whole {
			t.Errorf("FirstBad of %s = %d, and IsWhole is %v", c.s, bad, whole)
		}
		if depths, marks := impl.DepthsOf(ops), impl.MarksOf(ops); !slices.Equal(depths, c.depths) || !slices.Equal(marks, c.marks) {
			t.Errorf("of %s DepthsOf = %v and MarksOf = %v", c.s, depths, marks)
		}
		want := ops[:len(c.depths)]
		if cut := impl.CutOps(ops); !slices.Equal(cut, want) {
			t.Errorf("CutOps of %s = %v", c.s, cut)
		}
	}
}

// TestImpossibleKinds has all reasons for which an order is not possible, and for each kind where it is needed.
func TestImpossibleKinds(t *testing.T) {
	nodes := []string{"int=1", "text=1", "tuple0", "list", "dict", "new=1"}
	check := func(s string, ok bool) {
		t.Helper()
		ops := program(s)
		last := len(ops) - 1
		want := last
		if ok {
			want = -1
		}
		if got := impl.FirstBad(ops); got != want {
			t.Errorf("FirstBad of %s = %d", s, got)
		}
	}
	for kind, below := range nodes {
		isKey := kind == impl.NkInt || kind == impl.NkText
		for _, x := range nodes {
			check(below+" "+x+" append", kind == impl.NkList)
			check(below+" mark "+x+" appends", kind == impl.NkList)
			check(below+" "+x+" state", kind == impl.NkObj)
			check("dict "+below+" "+x+" setitem", isKey)
			check("dict mark "+below+" "+x+" setitems", isKey)
			check("dict mark int=1 list "+below+" "+x+" setitems", isKey)
			check("dict mark "+below+" "+x+" text=1 list setitems", isKey)
			check(below+" int=1 "+x+" setitem", kind == impl.NkDict)
			check(below+" mark int=1 "+x+" setitems", kind == impl.NkDict)
			check("new int=1 state put=7 pop "+below+" get=7 "+x+" state", false)
			check("new int=1 state "+below+" "+x+" state", kind == impl.NkObj)
			check(below+" "+x+" stop", false)
			check(below+" "+x+" tuple2 stop", true)
		}
		check(below+" mark appends", kind == impl.NkList)
		check(below+" mark setitems", kind == impl.NkDict)
		check("dict mark "+below+" setitems", false)
		check("dict mark int=1 int=1 "+below+" setitems", false)
		check(below+" put=0 pop get=0 stop", true)
		check(below+" mark put=0", false)
		check(below+" mark pop", false)
		check(below+" mark tuple1", false)
		check(below+" mark stop", false)
		check("mark "+below+" stop", false)
		check("mark "+below+" tuple2", false)
		check("mark "+below+" append", false)
		check("mark "+below+" state", false)
		check("mark int=1 "+below+" setitem", false)
		check("dict mark "+below+" setitem", false)
		check("dict int=1 mark setitem", false)
		check(below+" mark mark appends", false)
		check(below+" mark mark int=1 int=1 setitems", false)
		for _, order := range []string{"tuple", "appends", "setitems", "popmark"} {
			check(order, false)
			check(below+" "+order, false)
			check(below+" mark "+below+" popmark "+order, false)
		}
	}
	for _, order := range []string{"append", "setitem", "state", "put=0", "pop", "tuple1", "tuple2", "stop", "mark appends", "mark setitems"} {
		check(order, false)
	}
	// When the machine is done, nothing is possible.
	for _, o := range allOps() {
		ops := append(program("list put=0 put=19 stop"), o)
		if impl.FirstBad(ops) != 4 {
			t.Errorf("FirstBad(%v) = %d", ops, impl.FirstBad(ops))
		}
	}
}

func TestChecksAgainstReference(t *testing.T) {
	possible, whole := 0, 0
	checkable(func(ops []impl.Op) {
		before := slices.Clone(ops)
		w, depths, marks := builtBy(ops)
		count := len(depths)
		if got, n := impl.ShapesOf(ops); n != count || !identicalShapes(got, w.shapes()) {
			t.Errorf("ShapesOf(%v) = %v, %d", ops, got, n)
		}
		bad := count
		if count == len(ops) {
			bad = -1
			possible++
		}
		if got := impl.FirstBad(ops); got != bad {
			t.Errorf("FirstBad(%v) = %d", ops, got)
		}
		if got := impl.IsWhole(ops); got != (bad == -1 && w.done) {
			t.Errorf("IsWhole(%v) = %v", ops, got)
		} else if got {
			whole++
		}
		if got := impl.DepthsOf(ops); !slices.Equal(got, depths) {
			t.Errorf("DepthsOf(%v) = %v", ops, got)
		}
		if got := impl.MarksOf(ops); !slices.Equal(got, marks) {
			t.Errorf("MarksOf(%v) = %v", ops, got)
		}
		if got := impl.CutOps(ops); !slices.Equal(got, ops[:count]) {
			t.Errorf("CutOps(%v) = %v", ops, got)
		}
		end, ok := wantEnd(ops)
		if got, gotOK := impl.EndOps(ops); gotOK != ok || !slices.Equal(got, end) || !ok && got != nil {
			t.Errorf("EndOps(%v) = %v, %v", ops, got, gotOK)
		}
		if !slices.Equal(ops, before) {
			t.Errorf("an argument has changed: %v, not %v", ops, before)
		}
	})
	if possible < 1000 || whole < 500 {
		t.Errorf("all orders of %d programs are possible, and %d are whole", possible, whole)
	}
}

func TestTakes(t *testing.T) {
	for code := -400; code < 1400; code++ {
		takes, pushes := impl.TakesOf(code)
		if wantTake, wantPush := wantTakes(code); takes != wantTake || pushes != wantPush {
			t.Errorf("TakesOf(%d) = %d, %d", code, takes, pushes)
		}
	}
	for _, code := range []int{math.MinInt, math.MaxInt} {
		if takes, pushes := impl.TakesOf(code); takes != -2 || pushes != -2 {
			t.Errorf("TakesOf(%d) = %d, %d", code, takes, pushes)
		}
	}
}

// TestGivenEnds has the orders that end programs, written by hand.
func TestGivenEnds(t *testing.T) {
	for s, want := range map[string]string{
		"":                                  "tuple0 stop",
		"int=1":                             "stop",
		"int=1 stop":                        "",
		"int=1 int=2":                       "tuple2 stop",
		"int=1 int=2 text=3":                "tuple2 tuple2 stop",
		"mark":                              "tuple stop",
		"mark mark":                         "tuple tuple stop",
		"mark int=1":                        "tuple stop",
		"int=1 mark":                        "tuple tuple2 stop",
		"int=1 int=2 mark":                  "tuple tuple2 tuple2 stop",
		"int=1 mark int=2 int=3":            "tuple tuple2 stop",
		"int=1 mark int=2 mark int=3 int=4": "tuple tuple tuple2 stop",
		"mark int=1 mark int=2 mark":        "tuple tuple tuple stop",
		"int=1 pop":                         "tuple0 stop",
		"mark int=1 popmark":                "tuple0 stop",
		"list put=0 get=0":                  "tuple2 stop",
		// Only what stands before the first order that is not possible is ended.
		"stop":                              "tuple0 stop",
		"pop int=1 int=2":                   "tuple0 stop",
		"int=1 int=2 stop":                  "tuple2 stop",
		"mark stop int=1":                   "tuple stop",
		"int=1 mark stop":                   "tuple tuple2 stop",
		"list int=1 setitem append":         "tuple2 stop",
		"int=1 stop int=2 mark":             "",
		"int=1 stop stop":                   "",
		"int=1 get=0 mark mark":             "stop",
		"dict mark int=1 setitems int=2":    "tuple tuple2 stop",
		"dict mark int=1 list setitems new": "tuple2 stop",
	} {
		end, ok := impl.EndOps(program(s))
		if !ok || !slices.Equal(end, program(want)) {
			t.Errorf("EndOps of %s = %v, %v", s, end, ok)
		}
		if all := append(impl.CutOps(program(s)), end...); !impl.IsWhole(all) {
			t.Errorf("IsWhole(%v) = false", all)
		}
	}
}

// TestLimitsOfChecks is about programs of as many orders as there may be, or that would have just so many, or one more, with
// the orders that end them.
func TestLimitsOfChecks(t *testing.T) {
	for _, c := range []struct {
		s          string
		orders     int
		isPossible bool
		end        string
		ok         bool
	}{
		{repeated("int=1 pop", 149), 298, true, "tuple0 stop", true},
		{repeated("int=1 pop", 149) + "int=2", 299, true, "stop", true},
		{repeated("int=1 pop", 149) + "int=2 stop", 300, true, "", true},
		{repeated("int=1 pop", 149) + "int=2 stop pop", 301, false, "", false},
		{repeated("int=1 pop", 149) + "mark", 299, true, "", false},
		{repeated("int=1 pop", 150), 300, true, "", false},
		{repeated("int=1 pop", 149) + "int=2 tuple1", 300, true, "", false},
		{repeated("int=1 pop", 149) + "pop int=1", 300, false, "tuple0 stop", true},
		{"mark " + repeated("int=7", 297), 298, true, "tuple stop", true},
		{"mark " + repeated("int=7", 298), 299, true, "", false},
		{"mark " + repeated("int=7", 299), 300, true, "", false},
		{repeated("int=7", 150), 150, true, repeated("tuple2", 149) + "stop", true},
		{repeated("int=7", 151), 151, true, "", false},
		{repeated("int=7", 299), 299, true, "", false},
		{repeated("int=7", 300), 300, true, "", false},
		{repeated("mark", 149), 149, true, repeated("tuple", 149) + "stop", true},
		{repeated("mark", 149) + "pop", 150, false, repeated("tuple", 149) + "stop", true},
		{repeated("mark", 150), 150, true, "", false},
		{repeated("mark", 300), 300, true, "", false},
		{"int=7 stop " + repeated("mark", 298), 300, false, "", true},
		{"int=7 put=0 " + repeated("get=0", 298), 300, true, "", false},
		{"list put=0 put=1 " + repeated("get=0 append", 148) + "stop", 300, true, "", true},
	} {
		ops := program(c.s)
		end, ok := impl.EndOps(ops)
		if len(ops) != c.orders || ok != c.ok || !slices.Equal(end, program(c.end)) || !ok && end != nil {
			t.Errorf("EndOps(%v) = %v, %v", ops, end, ok)
		}
		if isPossible := impl.FirstBad(ops) == -1; isPossible != c.isPossible {
			t.Errorf("FirstBad(%v) = %d", ops, impl.FirstBad(ops))
		}
	}
	for _, s := range []string{"int=7", "mark", "tuple0", "list", "dict", "new=9"} {
		ops := program(repeated(s, 300))
		depths, marks := impl.DepthsOf(ops), impl.MarksOf(ops)
		if shapes, count := impl.ShapesOf(ops); count != 300 || len(shapes.Stack) != 300 || len(depths) != 300 || depths[299] != 300 || len(marks) != 300 {
			t.Errorf("ShapesOf(%v) = %v, %d", ops, shapes, count)
		}
		if s == "mark" && marks[299] != 300 || s != "mark" && marks[299] != 0 {
			t.Errorf("MarksOf(%v) = %v", ops, marks)
		}
	}
}

func TestInvalidProgramsOfChecks(t *testing.T) {
	all := invalidPrograms()
	for _, ops := range invalidPrograms() {
		all = append(all, append(program("int=1 put=3 stop pop"), ops...))
	}
	all = append(all, program(repeated("int=1 pop", 149)+"int=1 stop stop"), program(repeated("stop", 301)))
	for _, ops := range all {
		if wantOps(ops) {
			t.Fatalf("%v is valid", ops)
		}
		if s, count := impl.ShapesOf(ops); !isZeroShapes(s) || count != -1 {
			t.Errorf("ShapesOf(%v) = %v, %d", ops, s, count)
		}
		if impl.FirstBad(ops) != -2 || impl.IsWhole(ops) || impl.DepthsOf(ops) != nil || impl.MarksOf(ops) != nil || impl.CutOps(ops) != nil {
			t.Errorf("something is told of %v", ops)
		}
		if end, ok := impl.EndOps(ops); end != nil || ok {
			t.Errorf("EndOps(%v) = %v, %v", ops, end, ok)
		}
	}
}

// TestFreshChecks writes over all memory of the results, and looks at the arguments, at other lists and at the next results.
func TestFreshChecks(t *testing.T) {
	for _, s := range []string{"new=1 put=3 int=1 state mark int=2 mark text=3 put=19 list", "int=1 int=2 int=3 tuple2 tuple2 stop", "int=1 mark pop int=2"} {
		ops := program(s)
		before := slices.Clone(ops)
		for _, f := range []func() []int{
			func() []int { return impl.DepthsOf(ops) },
			func() []int { return impl.MarksOf(ops) },
		} {
			first := f()
			want := slices.Clone(first)
			spoil(first)
			if got := f(); !slices.Equal(got, want) {
				t.Errorf("%v is %v after its result was changed", want, got)
			}
		}
		for _, f := range []func() []impl.Op{
			func() []impl.Op { return impl.CutOps(ops) },
			func() []impl.Op { end, _ := impl.EndOps(ops); return end },
		} {
			first := f()
			want := slices.Clone(first)
			first = first[:cap(first)]
			for i := range first {
				first[i] = impl.Op{Code: -99, Arg: -99}
			}
			if got := f(); !slices.Equal(got, want) || !slices.Equal(ops, before) {
				t.Errorf("%v is %v after its result was changed", want, got)
			}
		}
		checkFreshShapes(t, ops)
	}
}

// checkFreshShapes spoils each list of what is known of a program, which must not change its other ones or the next result.
func checkFreshShapes(t *testing.T, ops []impl.Op) {
	t.Helper()
	want, _ := impl.ShapesOf(ops)
	s, _ := impl.ShapesOf(ops)
	spoil(s.Kinds)
	if !slices.Equal(s.Stack, want.Stack) || !slices.Equal(s.Memo, want.Memo) {
		t.Errorf("the kinds of %v share memory", want)
	}
	spoil(s.Stack)
	if !slices.Equal(s.Memo, want.Memo) {
		t.Errorf("the stack of %v shares memory", want)
	}
	s.Stack = slices.Clone(want.Stack)
	spoil(s.Memo)
	for i := range s.Full {
		s.Full[i] = !s.Full[i]
	}
	if !slices.Equal(s.Stack, want.Stack) {
		t.Errorf("the memo of %v shares memory", want)
	}
	if again, _ := impl.ShapesOf(ops); !identicalShapes(again, want) {
		t.Errorf("%v is %v after its result was changed", want, again)
	}
}
