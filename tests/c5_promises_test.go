package tests

import (
	"slices"
	"strings"
	"testing"

	"loop.example/graphcode/impl"
)

// begins reports whether a list is a beginning of another one.
func begins[T comparable](list []T, other []T) bool {
	return len(list) <= len(other) && slices.Equal(list, other[:len(list)])
}

// cutsOf returns where a list of a length is cut: everywhere, if it is short, and otherwise at its ends and at some places.
func cutsOf(length int, d *dice) []int {
	if length <= 12 {
		return d.order(length + 1)
	}
	return []int{0, 1, 2, length / 2, length - 2, length - 1, length, d.below(length), d.below(length), d.below(length)}
}

func TestPromise39BytesAreReadBack(t *testing.T) {
	twoBytes := 0
	encodable(func(ops []impl.Op) {
		list := impl.EncodeOps(ops)
		if len(list) > impl.MaxBytes || slices.ContainsFunc(list, func(b int) bool { return b < 0 || b > 255 }) {
			t.Errorf("EncodeOps(%v) = %v", ops, list)
		}
		if back, ok := impl.DecodeOps(list); !ok || !slices.Equal(back, ops) {
			t.Errorf("DecodeOps(%v) = %v, %v, not %v", list, back, ok, ops)
		}
		if slices.ContainsFunc(ops, func(o impl.Op) bool { return o.Arg >= 128 }) {
			twoBytes++
		}
	})
	if twoBytes < 1000 {
		t.Errorf("only %d programs have numbers of two bytes", twoBytes)
	}
	// No two programs have the same bytes.
	first := map[string]impl.Op{}
	for _, o := range everyOrder() {
		s, ok := bytesOf(impl.EncodeOps([]impl.Op{o}), 3)
		if other, again := first[s]; again || !ok || s == "" {
			t.Errorf("the bytes of %v and %v are %q", o, other, s)
		}
		first[s] = o
	}
	for _, ops := range invalidPrograms() {
		if list := impl.EncodeOps(ops); list != nil {
			t.Errorf("EncodeOps(%v) = %v", ops, list)
		}
	}
}

func TestPromise40BytesFollowEachOther(t *testing.T) {
	d := &dice{state: 55}
	encodable(func(ops []impl.Op) {
		list := impl.EncodeOps(ops)
		for _, at := range append(cutsOf(len(ops), d), len(ops)/2) {
			if both := slices.Concat(impl.EncodeOps(ops[:at]), impl.EncodeOps(ops[at:])); !slices.Equal(both, list) {
				t.Errorf("EncodeOps(%v) = %v, and cut at %d it is %v", ops, list, at, both)
			}
		}
	})
	// A program that is too long has no bytes, but its halves have some.
	half := program(repeated("int=999", 150) + "stop")
	if list := impl.EncodeOps(half); len(list) != 451 || impl.EncodeOps(append(half, half...)) != nil {
		t.Errorf("EncodeOps(%v) = %v", half, list)
	}
	for _, ops := range invalidPrograms() {
		for at := range len(ops) {
			first, second := impl.EncodeOps(ops[:at]), impl.EncodeOps(ops[at:])
			if (first == nil) == wantOps(ops[:at]) && at > 0 || (second == nil) == wantOps(ops[at:]) {
				t.Errorf("EncodeOps of %v cut at %d is %v and %v", ops, at, first, second)
			}
		}
	}
}

func TestPromise41BytesAreWrittenBack(t *testing.T) {
	whole := 0
	check := func(list []int) {
		ops, ok := impl.DecodeOps(list)
		if !ok {
			return
		}
		whole++
		if !impl.ValidOps(ops) || !slices.Equal(impl.EncodeOps(ops), list) {
			t.Errorf("DecodeOps(%v) = %v, of the bytes %v", list, ops, impl.EncodeOps(ops))
		}
	}
	byteLists(check)
	for _, list := range noByteLists() {
		check(list)
		if ops, ok := impl.DecodeOps(list); ok {
			t.Errorf("DecodeOps(%v) = %v", list, ops)
		}
	}
	if whole < 1000 {
		t.Errorf("only %d lists are programs", whole)
	}
	// A number that one byte is enough for is not read from two.
	for code := range 20 {
		for arg := range 128 {
			for _, list := range [][]int{{code, 128 + arg, 0}, {0, 5, code, 128 + arg, 0}, {code, 128 + arg, 0, 19}, {code, 128 + arg, 128, 0}} {
				if ops, ok := impl.DecodeOps(list); ok {
					t.Errorf("DecodeOps(%v) = %v", list, ops)
				}
			}
		}
	}
}

func TestPromise42TornBytesHaveWholeOrders(t *testing.T) {
	d := &dice{state: 56}
	torn := 0
	check := func(list []int) {
		ops, size := impl.DecodeTorn(list)
		if size < 0 || size > len(list) || !impl.ValidOps(ops) || !slices.Equal(impl.EncodeOps(ops), list[:size]) {
			t.Errorf("DecodeTorn(%v) = %v, %d", list, ops, size)
			return
		}
		if size > 0 && size < len(list) {
			torn++
		}
		for _, at := range cutsOf(len(list), d) {
			early, earlySize := impl.DecodeTorn(list[:at])
			if !begins(early, ops) || earlySize > size || earlySize < min(at, size)-2 || at >= size && earlySize != size {
				t.Errorf("DecodeTorn(%v) = %v, %d, and of the first %d bytes it is %v, %d", list, ops, size, at, early, earlySize)
			}
		}
	}
	byteLists(check)
	if torn < 1000 {
		t.Errorf("only %d lists are torn", torn)
	}
	// All whole orders are read: what is torn is the last one, or there is one too many.
	encodable(func(ops []impl.Op) {
		list := impl.EncodeOps(ops)
		for _, end := range [][]int{nil, {0}, {15}, {0, 200}, {0, 133, 0}, {20}, {255, 19}, {0, 232, 7}, {1, 10}} {
			if got, size := impl.DecodeTorn(append(slices.Clone(list), end...)); size != len(list) || !slices.Equal(got, ops) {
				t.Errorf("DecodeTorn(%v) with %v behind it is %v, %d", list, end, got, size)
			}
		}
		if more, size := impl.DecodeTorn(append(slices.Clone(list), 19)); (size > len(list)) != (len(ops) < 300) || !begins(ops, more) {
			t.Errorf("DecodeTorn(%v) with 19 behind it is %v, %d", list, more, size)
		}
	})
	for _, list := range append(noByteLists(), make([]int, 1001), slices.Repeat([]int{19}, 2000)) {
		if ops, size := impl.DecodeTorn(list); size != -1 || ops != nil {
			t.Errorf("DecodeTorn(%v) = %v, %d", list, ops, size)
		}
	}
}

func TestPromise43SizesAddUp(t *testing.T) {
	encodable(func(ops []impl.Op) {
		sum := 0
		for i := range ops {
			size := impl.SizeOf(ops[i : i+1])
			if size < 1 || size > 3 {
				t.Errorf("SizeOf(%v) = %d", ops[i], size)
			}
			sum += size
		}
		if size := impl.SizeOf(ops); size != sum || size != len(impl.EncodeOps(ops)) {
			t.Errorf("SizeOf(%v) = %d, not %d", ops, size, sum)
		}
	})
	for s, want := range map[string]int{
		"mark": 1, "tuple": 1, "tuple0": 1, "tuple1": 1, "tuple2": 1, "list": 1, "append": 1, "appends": 1, "dict": 1, "setitem": 1, "setitems": 1,
		"state": 1, "pop": 1, "popmark": 1, "stop": 1, "text": 2, "text=9": 2, "new": 2, "new=9": 2, "put": 2, "put=19": 2, "get": 2, "get=19": 2,
		"int": 2, "int=127": 2, "int=128": 3, "int=255": 3, "int=256": 3, "int=999": 3, "": 0, "int=127 int=128 mark": 6,
	} {
		if size := impl.SizeOf(program(s)); size != want {
			t.Errorf("SizeOf of %s = %d", s, size)
		}
	}
	for _, ops := range invalidPrograms() {
		if size := impl.SizeOf(ops); size != -1 {
			t.Errorf("SizeOf(%v) = %d", ops, size)
		}
	}
}

func TestPromise44FramesHoldAllBytes(t *testing.T) {
	d := &dice{state: 57}
	check := func(list []int, most int) {
		framed := impl.FrameBytes(list, most)
		back, ok := impl.UnframeBytes(framed)
		if !ok || !slices.Equal(back, list) {
			t.Errorf("UnframeBytes of FrameBytes(%v, %d) = %v, %v", list, most, back, ok)
		}
		count, last := (len(list)+most-1)/most, 0
		for at := 0; at < len(framed); at += 1 + last {
			last = framed[at]
			count--
			if isLast := at+1+last >= len(framed); last < 1 || last > most || last < most && !isLast {
				t.Errorf("FrameBytes(%v, %d) = %v", list, most, framed)
				return
			}
		}
		if count != 0 || len(framed) != len(list)+(len(list)+most-1)/most {
			t.Errorf("FrameBytes(%v, %d) = %v", list, most, framed)
		}
	}
	for length := range 1001 {
		list := frames(length)[1:]
		for range 3 {
			check(list, 1+d.below(200))
		}
		check(list, 1)
		check(list, 200)
		if length > 0 && length <= 200 {
			check(list, length)
		}
	}
	for most := 1; most <= 200; most++ {
		for _, length := range []int{0, 1, most - 1, most, most + 1, 2*most - 1, 2 * most, 2*most + 1, 1000} {
			check(frames(length)[1:], most)
		}
	}
	for _, ops := range widePrograms() {
		check(impl.EncodeOps(ops), 1+d.below(200))
	}
	for _, list := range append(noByteLists(), make([]int, 1001)) {
		if framed := impl.FrameBytes(list, 1); framed != nil {
			t.Errorf("FrameBytes(%v, 1) = %v", list, framed)
		}
	}
	for _, most := range []int{-1, 0, 201} {
		if framed := impl.FrameBytes([]int{5}, most); framed != nil {
			t.Errorf("FrameBytes of one byte in frames of %d = %v", most, framed)
		}
	}
}

func TestPromise45FramesOfAnyLengthsAreRead(t *testing.T) {
	whole, torn := 0, 0
	check := func(list []int) {
		content, ok := impl.UnframeBytes(list)
		early, size := impl.UnframeTorn(list)
		if ok != (size == len(list)) || ok && !slices.Equal(content, early) || !ok && content != nil {
			t.Errorf("UnframeBytes(%v) = %v, %v, and UnframeTorn = %v, %d", list, content, ok, early, size)
		}
		if !ok {
			torn++
			return
		}
		whole++
		for _, most := range []int{1, 7, 100, 200} {
			framed := impl.FrameBytes(content, most)
			if len(content) > impl.MaxBytes {
				if framed != nil {
					t.Errorf("FrameBytes(%v, %d) = %v", content, most, framed)
				}
				continue
			}
			if back, ok := impl.UnframeBytes(framed); !ok || !slices.Equal(back, content) {
				t.Errorf("UnframeBytes of FrameBytes(%v, %d) = %v, %v", content, most, back, ok)
			}
		}
	}
	frameLists(check)
	if whole < 500 || torn < 500 {
		t.Errorf("%d lists are whole frames, and %d are not", whole, torn)
	}
	for _, sizes := range [][]int{{1, 200, 1}, {3, 1, 2}, {200, 199, 198}, {1, 1, 1, 1}, {5, 5, 1, 5}} {
		var want []int
		for i, size := range sizes {
			want = append(want, frames(sizes[:i+1]...)[len(frames(sizes[:i]...))+1:]...)
			if len(want) < size {
				t.Fatalf("%v are too few bytes for frames of %v", want, sizes)
			}
		}
		if content, ok := impl.UnframeBytes(frames(sizes...)); !ok || !slices.Equal(content, want) {
			t.Errorf("UnframeBytes of frames of %v = %v, %v", sizes, content, ok)
		}
	}
	for _, list := range append(noByteLists(), make([]int, 2001), frames(slices.Repeat([]int{1}, 1001)...)) {
		check(list)
		if content, ok := impl.UnframeBytes(list); ok {
			t.Errorf("UnframeBytes(%v) = %v", list, content)
		}
	}
}

func TestPromise46WholeFramesAreKept(t *testing.T) {
	d := &dice{state: 58}
	torn := 0
	frameLists(func(list []int) {
		content, size := impl.UnframeTorn(list)
		if size < 0 || size > len(list) {
			t.Errorf("UnframeTorn(%v) = %v, %d", list, content, size)
			return
		}
		if told, ok := impl.UnframeBytes(list[:size]); !ok || !slices.Equal(told, content) {
			t.Errorf("UnframeTorn(%v) = %v, %d, and UnframeBytes of these = %v, %v", list, content, size, told, ok)
		}
		_, _, frames := wantUnframed(list)
		if size != len(content)+frames {
			t.Errorf("UnframeTorn(%v) = %v, %d, of %d frames", list, content, size, frames)
		}
		for _, at := range cutsOf(len(list), d) {
			early, earlySize := impl.UnframeTorn(list[:at])
			if !begins(early, content) || earlySize > min(at, size) || at >= size && earlySize != size {
				t.Errorf("UnframeTorn(%v) = %v, %d, and of the first %d bytes it is %v, %d", list, content, size, at, early, earlySize)
			}
			if earlySize < size {
				torn++
			}
		}
	})
	if torn < 500 {
		t.Errorf("only %d frames are torn", torn)
	}
	// Each frame is kept as soon as its last byte is there, and not before.
	list := frames(1, 3, 200, 2)
	ends := []int{0, 2, 6, 207, 210}
	for at := range len(list) + 1 {
		want := 0
		for _, end := range ends {
			if end <= at {
				want = end
			}
		}
		if content, size := impl.UnframeTorn(list[:at]); size != want || len(content) != want-slices.Index(ends, want) {
			t.Errorf("UnframeTorn(%v) = %v, %d", list[:at], content, size)
		}
	}
	for _, list := range append(noByteLists(), make([]int, 2001)) {
		if content, size := impl.UnframeTorn(list); size != -1 || content != nil {
			t.Errorf("UnframeTorn(%v) = %v, %d", list, content, size)
		}
	}
}

func TestPromise47TextsAreReadBack(t *testing.T) {
	encodable(func(ops []impl.Op) {
		text := impl.ShowOps(ops)
		if strings.Count(text, "\n") != len(ops) || text != "" && !strings.HasSuffix(text, "\n") {
			t.Errorf("ShowOps(%v) = %q", ops, text)
		}
		if back, ok := impl.ReadOps(text); !ok || !slices.Equal(back, ops) {
			t.Errorf("ReadOps(%q) = %v, %v, not %v", text, back, ok, ops)
		}
	})
	for _, ops := range invalidPrograms() {
		if text := impl.ShowOps(ops); text != "" {
			t.Errorf("ShowOps(%v) = %q", ops, text)
		}
	}
}

func TestPromise48TextsAreWrittenBack(t *testing.T) {
	whole := 0
	texts(func(s string) {
		ops, ok := impl.ReadOps(s)
		if !ok {
			return
		}
		whole++
		if !impl.ValidOps(ops) || impl.ShowOps(ops) != s {
			t.Errorf("ReadOps(%q) = %v, of the text %q", s, ops, impl.ShowOps(ops))
		}
	})
	if whole < 1000 {
		t.Errorf("only %d texts are programs", whole)
	}
	for s, isProgram := range edgeTexts() {
		ops, ok := impl.ReadOps(s)
		if ok != isProgram || !ok && ops != nil {
			t.Errorf("ReadOps(%q) = %v, %v", s, ops, ok)
		}
		// What is no line is none behind others, either.
		if _, ok := impl.ReadOps("int 5\nmark\n" + s); ok != isProgram {
			t.Errorf("ReadOps of lines and %q is %v", s, ok)
		}
	}
	if ops, ok := impl.ReadOps(strings.Repeat("mark\n", 301)); ok || ops != nil {
		t.Errorf("ReadOps of 301 lines = %v, %v", ops, ok)
	}
}
