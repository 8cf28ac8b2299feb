package tests

import (
	"math"
	"slices"
	"strings"
	"testing"

	"loop.example/graphcode/impl"
)

// TestGivenBytes has the bytes and the texts of programs, written by hand.
func TestGivenBytes(t *testing.T) {
	for _, c := range []struct {
		s    string
		list []int
		text string
	}{
		{"", nil, ""},
		{"int=0", []int{0, 0}, "int 0\n"},
		{"int=5", []int{0, 5}, "int 5\n"},
		{"int=127", []int{0, 127}, "int 127\n"},
		{"int=128", []int{0, 128, 1}, "int 128\n"},
		{"int=129", []int{0, 129, 1}, "int 129\n"},
		{"int=200", []int{0, 200, 1}, "int 200\n"},
		{"int=255", []int{0, 255, 1}, "int 255\n"},
		{"int=256", []int{0, 128, 2}, "int 256\n"},
		{"int=895", []int{0, 255, 6}, "int 895\n"},
		{"int=896", []int{0, 128, 7}, "int 896\n"},
		{"int=999", []int{0, 231, 7}, "int 999\n"},
		{"text", []int{1, 0}, "text 0\n"},
		{"text=9", []int{1, 9}, "text 9\n"},
		{"new=9", []int{13, 9}, "new 9\n"},
		{"put=19", []int{15, 19}, "put 19\n"},
		{"get=19", []int{16, 19}, "get 19\n"},
		{"put get", []int{15, 0, 16, 0}, "put 0\nget 0\n"},
		{"mark tuple tuple0 tuple1 tuple2", []int{2, 3, 4, 5, 6}, "mark\ntuple\ntuple0\ntuple1\ntuple2\n"},
		{"list append appends dict setitem setitems", []int{7, 8, 9, 10, 11, 12}, "list\nappend\nappends\ndict\nsetitem\nsetitems\n"},
		{"state pop popmark stop stop", []int{14, 17, 18, 19, 19}, "state\npop\npopmark\nstop\nstop\n"},
		{"int=19 int=0 text=1 stop", []int{0, 19, 0, 0, 1, 1, 19}, "int 19\nint 0\ntext 1\nstop\n"},
		{"list put=3 int=300 append get=3 append stop", []int{7, 15, 3, 0, 172, 2, 8, 16, 3, 8, 19}, "list\nput 3\nint 300\nappend\nget 3\nappend\nstop\n"},
	} {
		ops := program(c.s)
		if list, size := impl.EncodeOps(ops), impl.SizeOf(ops); !slices.Equal(list, c.list) || size != len(c.list) {
			t.Errorf("EncodeOps of %s = %v, and SizeOf = %d", c.s, list, size)
		}
		if got, ok := impl.DecodeOps(c.list); !ok || !slices.Equal(got, ops) {
			t.Errorf("DecodeOps(%v) = %v, %v", c.list, got, ok)
		}
		if text := impl.ShowOps(ops); text != c.text {
			t.Errorf("ShowOps of %s = %q", c.s, text)
		}
		if got, ok := impl.ReadOps(c.text); !ok || !slices.Equal(got, ops) {
			t.Errorf("ReadOps(%q) = %v, %v", c.text, got, ok)
		}
	}
}

// checkRead checks what two functions read of a list: the one all that is whole at its beginning, which is want and of size
// numbers, and the other one nothing if that is not all of the list.
func checkRead[T comparable](t *testing.T, list []int, readTorn func([]int) ([]T, int), readWhole func([]int) ([]T, bool), want []T, size int) {
	t.Helper()
	before := slices.Clone(list)
	if got, gotSize := readTorn(list); gotSize != size || !slices.Equal(got, want) || size == -1 && got != nil {
		t.Errorf("of %v is whole %v, %d, not %v, %d", list, got, gotSize, want, size)
	}
	isWhole := size == len(list)
	if got, ok := readWhole(list); ok != isWhole || ok && !slices.Equal(got, want) || !ok && got != nil {
		t.Errorf("%v is read as %v, %v, not as %v, %v", list, got, ok, want, isWhole)
	}
	if !slices.Equal(list, before) {
		t.Errorf("an argument has changed: %v, not %v", list, before)
	}
}

// TestTornBytes has bytes that are no program, and the program at their beginning.
func TestTornBytes(t *testing.T) {
	for _, c := range []struct {
		list []int
		s    string
		size int
	}{
		// Numbers that are not there, or not whole.
		{[]int{0}, "", 0},
		{[]int{15}, "", 0},
		{[]int{0, 200}, "", 0},
		{[]int{19, 0}, "stop", 1},
		{[]int{0, 5, 0}, "int=5", 2},
		{[]int{0, 5, 0, 128}, "int=5", 2},
		{[]int{0, 128, 1, 13}, "int=128", 3},
		{[]int{2, 3, 16}, "mark tuple", 2},
		// Numbers of two bytes that one byte is enough for.
		{[]int{0, 128, 0}, "", 0},
		{[]int{0, 133, 0}, "", 0},
		{[]int{0, 255, 0}, "", 0},
		{[]int{1, 133, 0}, "", 0},
		{[]int{19, 13, 128, 0, 19}, "stop", 1},
		{[]int{15, 147, 0}, "", 0},
		// Numbers that are too great.
		{[]int{0, 232, 7}, "", 0},
		{[]int{0, 255, 7}, "", 0},
		{[]int{0, 128, 8}, "", 0},
		{[]int{0, 255, 255}, "", 0},
		{[]int{0, 128, 128, 1}, "", 0},
		{[]int{1, 10}, "", 0},
		{[]int{1, 137, 1}, "", 0},
		{[]int{13, 10}, "", 0},
		{[]int{15, 20}, "", 0},
		{[]int{16, 20}, "", 0},
		{[]int{16, 19, 16, 127}, "get=19", 2},
		// Orders that there are not.
		{[]int{20}, "", 0},
		{[]int{255}, "", 0},
		{[]int{19, 20, 19}, "stop", 1},
		{[]int{0, 5, 128}, "int=5", 2},
		// A 0 that would be an Arg of an order without one.
		{[]int{2, 0}, "mark", 1},
		{[]int{19, 0, 5, 19, 0}, "stop int=5 stop", 4},
	} {
		checkRead(t, c.list, impl.DecodeTorn, impl.DecodeOps, program(c.s), c.size)
	}
}

// TestLimitsOfBytes is about as many orders and bytes as there may be, and one more.
func TestLimitsOfBytes(t *testing.T) {
	for _, c := range []struct {
		list   []int
		isOps  bool
		orders int
		size   int
	}{
		{slices.Repeat([]int{2}, 300), true, 300, 300},
		{slices.Repeat([]int{2}, 301), false, 300, 300},
		{slices.Repeat([]int{2}, 1000), false, 300, 300},
		{slices.Repeat([]int{2}, 1001), false, 0, -1},
		{slices.Repeat([]int{0, 231, 7}, 300), true, 300, 900},
		{append(slices.Repeat([]int{0, 231, 7}, 300), 19), false, 300, 900},
		{append(slices.Repeat([]int{0, 231, 7}, 300), make([]int, 100)...), false, 300, 900},
		{append(slices.Repeat([]int{0, 231, 7}, 300), make([]int, 101)...), false, 0, -1},
		{append(slices.Repeat([]int{0, 231, 7}, 300), 256), false, 0, -1},
		{append(slices.Repeat([]int{0, 231, 7}, 299), 0, 231), false, 299, 897},
		{append([]int{20}, make([]int, 999)...), false, 0, 0},
		{append([]int{20}, make([]int, 1000)...), false, 0, -1},
		{make([]int, 100000), false, 0, -1},
	} {
		ops, size := impl.DecodeTorn(c.list)
		if size != c.size || len(ops) != c.orders {
			t.Errorf("DecodeTorn(%v) = %v, %d", c.list, ops, size)
		}
		if ops, ok := impl.DecodeOps(c.list); ok != c.isOps || ok && len(ops) != c.orders || !ok && ops != nil {
			t.Errorf("DecodeOps(%v) = %v, %v", c.list, ops, ok)
		}
	}
	for s, size := range map[string]int{"stop": 300, "text=9": 600, "int=127": 600, "int=128": 900, "int=999": 900} {
		most, more := program(repeated(s, 300)), program(repeated(s, 301))
		if got := impl.SizeOf(most); got != size || len(impl.EncodeOps(most)) != size || strings.Count(impl.ShowOps(most), "\n") != 300 {
			t.Errorf("SizeOf(%v) = %d", most, got)
		}
		if impl.SizeOf(more) != -1 || impl.EncodeOps(more) != nil || impl.ShowOps(more) != "" {
			t.Errorf("SizeOf(%v) = %d", more, impl.SizeOf(more))
		}
		line := wantShown(program(s))
		if ops, ok := impl.ReadOps(strings.Repeat(line, 300)); !ok || !slices.Equal(ops, most) {
			t.Errorf("ReadOps of 300 times %q = %v, %v", line, ops, ok)
		}
		for _, count := range []int{301, 302, 10000} {
			if ops, ok := impl.ReadOps(strings.Repeat(line, count)); ok || ops != nil {
				t.Errorf("ReadOps of %d times %q = %v, %v", count, line, ops, ok)
			}
		}
	}
}

func TestBytesAgainstReference(t *testing.T) {
	encodable(func(ops []impl.Op) {
		before := slices.Clone(ops)
		want := wantBytes(ops)
		if got, size := impl.EncodeOps(ops), impl.SizeOf(ops); !slices.Equal(got, want) || size != len(want) {
			t.Errorf("EncodeOps(%v) = %v, and SizeOf = %d", ops, got, size)
		}
		if got, want := impl.ShowOps(ops), wantShown(ops); got != want {
			t.Errorf("ShowOps(%v) = %q", ops, got)
		}
		if !slices.Equal(ops, before) {
			t.Errorf("an argument has changed: %v, not %v", ops, before)
		}
	})
	counts := map[bool]int{}
	byteLists(func(list []int) {
		want, size := wantTorn(list)
		checkRead(t, list, impl.DecodeTorn, impl.DecodeOps, want, size)
		counts[size == len(list)]++
	})
	if counts[true] < 1000 || counts[false] < 1000 {
		t.Errorf("%d lists are programs, and %d are not", counts[true], counts[false])
	}
}

func TestTextsAgainstReference(t *testing.T) {
	for s, isProgram := range edgeTexts() {
		if _, ok := wantRead(s); ok != isProgram {
			t.Fatalf("%q is a program: %v", s, ok)
		}
	}
	whole, none := 0, 0
	texts(func(s string) {
		want, isProgram := wantRead(s)
		got, ok := impl.ReadOps(s)
		switch {
		case ok != isProgram, !slices.Equal(got, want), !ok && got != nil:
			t.Errorf("ReadOps(%q) = %v, %v", s, got, ok)
		case ok:
			whole++
		default:
			none++
		}
	})
	if whole < 1000 || none < 1000 {
		t.Errorf("%d texts are programs, and %d none", whole, none)
	}
}

// TestGivenFrames has bytes in frames, written by hand.
func TestGivenFrames(t *testing.T) {
	for _, c := range []struct {
		list   []int
		most   int
		framed []int
	}{
		{nil, 1, nil},
		{nil, 200, nil},
		{[]int{0}, 1, []int{1, 0}},
		{[]int{255}, 200, []int{1, 255}},
		{[]int{5, 6, 7}, 1, []int{1, 5, 1, 6, 1, 7}},
		{[]int{5, 6, 7}, 2, []int{2, 5, 6, 1, 7}},
		{[]int{5, 6, 7, 8}, 2, []int{2, 5, 6, 2, 7, 8}},
		{[]int{5, 6, 7}, 3, []int{3, 5, 6, 7}},
		{[]int{5, 6, 7}, 4, []int{3, 5, 6, 7}},
		{[]int{5, 6, 7}, 200, []int{3, 5, 6, 7}},
		{[]int{1, 1, 2, 2}, 3, []int{3, 1, 1, 2, 1, 2}},
	} {
		if framed := impl.FrameBytes(c.list, c.most); !slices.Equal(framed, c.framed) {
			t.Errorf("FrameBytes(%v, %d) = %v", c.list, c.most, framed)
		}
		if list, ok := impl.UnframeBytes(c.framed); !ok || !slices.Equal(list, c.list) {
			t.Errorf("UnframeBytes(%v) = %v, %v", c.framed, list, ok)
		}
	}
	for _, c := range []struct {
		list    []int
		content []int
		size    int
	}{
		{nil, nil, 0},
		{[]int{1, 5, 2, 6, 7}, []int{5, 6, 7}, 5},
		{[]int{2, 5, 6, 1, 7, 3, 8, 9, 0}, []int{5, 6, 7, 8, 9, 0}, 9},
		// Frames without bytes, that are too long, or torn.
		{[]int{0}, nil, 0},
		{[]int{0, 1, 5}, nil, 0},
		{[]int{1, 5, 0, 1, 6}, []int{5}, 2},
		{[]int{1}, nil, 0},
		{[]int{2, 1}, nil, 0},
		{[]int{200}, nil, 0},
		{[]int{1, 5, 1}, []int{5}, 2},
		{[]int{1, 5, 2, 6}, []int{5}, 2},
		{[]int{2, 1, 2, 3, 9}, []int{1, 2}, 3},
		{[]int{1, 5, 201, 1, 6}, []int{5}, 2},
		{[]int{1, 5, 255}, []int{5}, 2},
		{append([]int{1, 5}, frames(201)...), []int{5}, 2},
		{append([]int{1, 5}, frames(200)...), append([]int{5}, frames(200)[1:]...), 203},
		{append([]int{1, 5}, frames(200)[:200]...), []int{5}, 2},
		{frames(255), nil, 0},
	} {
		checkRead(t, c.list, impl.UnframeTorn, impl.UnframeBytes, c.content, c.size)
	}
}

func TestFramesAgainstReference(t *testing.T) {
	contents := func(try func(list []int)) {
		for size := range 410 {
			try(frames(size)[1:])
		}
		for _, size := range []int{599, 600, 601, 999, 1000} {
			try(frames(size)[1:])
		}
	}
	contents(func(list []int) {
		before := slices.Clone(list)
		for _, most := range []int{1, 2, 3, 7, 99, 100, 101, 127, 128, 199, 200} {
			if got, want := impl.FrameBytes(list, most), wantFramed(list, most); !slices.Equal(got, want) {
				t.Errorf("FrameBytes(%v, %d) = %v", list, most, got)
			}
		}
		if !slices.Equal(list, before) {
			t.Errorf("an argument has changed: %v, not %v", list, before)
		}
	})
	counts := map[bool]int{}
	frameLists(func(list []int) {
		want, size, _ := wantUnframed(list)
		checkRead(t, list, impl.UnframeTorn, impl.UnframeBytes, want, size)
		counts[size == len(list)]++
	})
	if counts[true] < 500 || counts[false] < 500 {
		t.Errorf("%d lists are whole frames, and %d are not", counts[true], counts[false])
	}
}

// TestLimitsOfFrames is about as many bytes, and frames of as many, as there may be, and one more.
func TestLimitsOfFrames(t *testing.T) {
	full := frames(1000)[1:]
	for most, size := range map[int]int{1: 2000, 2: 1500, 3: 1334, 199: 1006, 200: 1005} {
		if framed := impl.FrameBytes(full, most); len(framed) != size || framed[0] != most {
			t.Errorf("FrameBytes of 1000 bytes in frames of %d has %d bytes", most, len(framed))
		}
	}
	for _, most := range []int{0, -1, 201, 255, 256, 1000, math.MaxInt, math.MinInt} {
		for _, list := range [][]int{nil, {5}, full} {
			if framed := impl.FrameBytes(list, most); framed != nil {
				t.Errorf("FrameBytes(%v, %d) = %v", list, most, framed)
			}
		}
	}
	for _, list := range [][]int{make([]int, 1001), append(full[:1000:1000], 5), make([]int, 100000)} {
		for _, most := range []int{1, 100, 200} {
			if framed := impl.FrameBytes(list, most); framed != nil {
				t.Errorf("FrameBytes(%v, %d) = %v", list, most, framed)
			}
		}
	}
	for _, c := range []struct {
		list    []int
		content int
		size    int
	}{
		{frames(200, 200, 200, 200, 200, 200, 200, 200, 200, 190), 1990, 2000},
		{frames(200, 200, 200, 200, 200, 200, 200, 200, 200, 191), 0, -1},
		{frames(200, 200, 200, 200, 200, 200, 200, 200, 200, 191)[:2000], 1800, 1809},
		{frames(slices.Repeat([]int{1}, 1000)...), 1000, 2000},
		{frames(slices.Repeat([]int{1}, 1001)...), 0, -1},
		{append(frames(slices.Repeat([]int{1}, 1000)...), 1), 0, -1},
		{append(frames(slices.Repeat([]int{1}, 1000)...), 0), 0, -1},
		{make([]int, 2000), 0, 0},
		{make([]int, 2001), 0, -1},
		{make([]int, 100000), 0, -1},
	} {
		content, size := impl.UnframeTorn(c.list)
		if size != c.size || len(content) != c.content {
			t.Errorf("UnframeTorn(%v) = %v, %d", c.list, content, size)
		}
		whole, ok := impl.UnframeBytes(c.list)
		if ok != (c.size == len(c.list)) || ok && !slices.Equal(whole, content) || !ok && whole != nil {
			t.Errorf("UnframeBytes(%v) = %v, %v", c.list, whole, ok)
		}
	}
}

func TestListsThatAreNoBytes(t *testing.T) {
	for _, list := range noByteLists() {
		checkRead(t, list, impl.DecodeTorn, impl.DecodeOps, nil, -1)
		checkRead(t, list, impl.UnframeTorn, impl.UnframeBytes, nil, -1)
		for _, most := range []int{1, 2, 200} {
			if framed := impl.FrameBytes(list, most); framed != nil {
				t.Errorf("FrameBytes(%v, %d) = %v", list, most, framed)
			}
		}
	}
}

func TestInvalidProgramsOfBytes(t *testing.T) {
	for _, ops := range invalidPrograms() {
		before := slices.Clone(ops)
		if list, size := impl.EncodeOps(ops), impl.SizeOf(ops); list != nil || size != -1 {
			t.Errorf("EncodeOps(%v) = %v, and SizeOf = %d", ops, list, size)
		}
		if text := impl.ShowOps(ops); text != "" {
			t.Errorf("ShowOps(%v) = %q", ops, text)
		}
		if !slices.Equal(ops, before) {
			t.Errorf("an argument has changed: %v, not %v", ops, before)
		}
	}
}

// TestFreshBytes writes over all memory of the results, and looks at the arguments and at the next results.
func TestFreshBytes(t *testing.T) {
	ops := program("int=5 int=200 text=3 mark stop")
	list := wantBytes(ops)
	framed, single := wantFramed(list, 3), wantFramed(list, 200)
	for _, f := range []func() []int{
		func() []int { return impl.EncodeOps(ops) },
		func() []int { return impl.FrameBytes(list, 3) },
		func() []int { return impl.FrameBytes(list, 200) },
		func() []int { content, _ := impl.UnframeBytes(framed); return content },
		func() []int { content, _ := impl.UnframeBytes(single); return content },
		func() []int { content, _ := impl.UnframeTorn(single); return content },
		func() []int { content, _ := impl.UnframeTorn(framed); return content },
		func() []int { content, _ := impl.UnframeTorn(framed[:6]); return content },
	} {
		want := slices.Clone(f())
		spoil(f())
		if got := f(); len(got) == 0 || !slices.Equal(got, want) {
			t.Errorf("%v is %v after its result was changed", want, got)
		}
	}
	for _, f := range []func() []impl.Op{
		func() []impl.Op { got, _ := impl.DecodeOps(list); return got },
		func() []impl.Op { got, _ := impl.DecodeTorn(list); return got },
		func() []impl.Op { got, _ := impl.ReadOps(wantShown(ops)); return got },
	} {
		first := f()
		first = first[:cap(first)]
		for i := range first {
			first[i] = impl.Op{Code: -99, Arg: -99}
		}
		if got := f(); !slices.Equal(got, ops) {
			t.Errorf("%v is %v after its result was changed", ops, got)
		}
	}
	if !slices.Equal(list, wantBytes(ops)) || !slices.Equal(framed, wantFramed(list, 3)) || !slices.Equal(single, wantFramed(list, 200)) {
		t.Errorf("the arguments have changed: %v, %v and %v", list, framed, single)
	}
	// The spare capacity behind an argument is not written to, either.
	for _, part := range [][]int{list[:4], framed[:4], framed[:0]} {
		impl.FrameBytes(part, 2)
		impl.UnframeBytes(part)
		impl.UnframeTorn(part)
		impl.DecodeTorn(part)
	}
	impl.EncodeOps(ops[:2])
	if !slices.Equal(list, wantBytes(ops)) || !slices.Equal(framed, wantFramed(list, 3)) || !slices.Equal(ops, program("int=5 int=200 text=3 mark stop")) {
		t.Errorf("what is behind the arguments has changed: %v, %v and %v", ops, list, framed)
	}
}
