package tests

import (
	"math"
	"slices"
	"sync"

	"loop.example/graphcode/impl"
)

// wideOp returns a valid order; numbers of two bytes are as frequent as those of one.
func (d *dice) wideOp() impl.Op {
	switch d.below(4) {
	case 0:
		return everyOrder()[d.below(len(everyOrder()))]
	case 1:
		return impl.Op{Arg: []int{0, 1, 126, 127, 128, 129, 255, 256, 257, 511, 895, 896, 998, 999}[d.below(14)]}
	}
	return d.anyOp()
}

// widePrograms has programs of up to 300 orders, whether these are possible or not, and is made once for all tests.
var widePrograms = sync.OnceValue(func() [][]impl.Op {
	all := [][]impl.Op{
		program(repeated("stop", 300)), program(repeated("int=127", 300)), program(repeated("int=128", 300)), program(repeated("int=999", 300)),
		program(repeated("put=19", 300)), program(repeated("int=999 get=0 mark", 100)), program(repeated("stop", 299)), program(repeated("int=999", 299)),
	}
	d := &dice{state: 51}
	for at := range 300 {
		ops := make([]impl.Op, 1+d.below(1+at))
		for i := range ops {
			ops[i] = d.wideOp()
		}
		all = append(all, ops)
	}
	return all
})

// encodable calls try with many valid programs: those of the machine, each order alone, and widePrograms.
func encodable(try func(ops []impl.Op)) {
	programs(try)
	for _, o := range everyOrder() {
		try([]impl.Op{o})
	}
	for _, ops := range widePrograms() {
		try(slices.Clone(ops))
	}
}

// changedList returns a list in which one number was left out, put in or changed, or the last ones cut off.
func (d *dice) changedList(list []int) []int {
	list = slices.Clone(list)
	at, x := d.below(len(list)), []int{0, 1, 2, 15, 19, 20, 127, 128, 200, 201, 255, d.below(256)}[d.below(12)]
	switch d.below(4) {
	case 0:
		return slices.Delete(list, at, at+1)
	case 1:
		return slices.Insert(list, at, x)
	case 2:
		list[at] = x
		return list
	}
	return list[:at]
}

// shortLists calls try with all bytes up to two, and with all of three that begin with some orders.
func shortLists(try func(list []int)) {
	try(nil)
	for first := range 256 {
		try([]int{first})
		for second := range 256 {
			try([]int{first, second})
			for _, code := range []int{impl.OcInt, impl.OcText, impl.OcMark, impl.OcNew, impl.OcPut, impl.OcGet, impl.OcStop} {
				try([]int{code, first, second})
			}
		}
	}
}

// byteLists calls try with many lists of at most 1000 bytes, with the edge cases that the document names.
func byteLists(try func(list []int)) {
	shortLists(try)
	for _, list := range [][]int{
		{0, 5, 0, 200, 1, 19},
		{0, 5, 0},
		{0, 5, 0, 200},
		{0, 133, 0},
		{19, 0, 133, 0, 19},
		{19, 0, 231, 7, 19},
		{19, 0, 232, 7, 19},
		{0, 255, 8},
		{0, 128, 128, 0},
		{0, 128, 255, 1},
		{15, 128, 20},
		{15, 128, 0},
		{2, 0},
		{20, 2},
		{2, 255, 2},
		slices.Repeat([]int{2}, 300),
		slices.Repeat([]int{2}, 301),
		slices.Repeat([]int{2}, 1000),
		slices.Repeat([]int{0, 231, 7}, 300),
		append(slices.Repeat([]int{0, 231, 7}, 300), 0),
		append(slices.Repeat([]int{0, 231, 7}, 300), 20),
		append(slices.Repeat([]int{0, 231, 7}, 333), 2),
		append(slices.Repeat([]int{0, 127}, 299), 0, 128, 1),
		append(slices.Repeat([]int{0, 127}, 299), 0, 128, 1, 2),
		append(slices.Repeat([]int{19}, 299), 0, 128),
		make([]int, 600),
		make([]int, 601),
		make([]int, 1000),
		slices.Repeat([]int{255}, 1000),
	} {
		try(list)
	}
	d := &dice{state: 52}
	for _, ops := range slices.Concat(widePrograms(), longPrograms()) {
		list := wantBytes(ops)
		try(list)
		for range 5 {
			if len(list) > 0 && len(list) <= 1000 {
				list = d.changedList(list)
				try(list)
			}
		}
	}
}

// frames returns frames of these sizes, one after the other, with bytes that are all different next to each other.
func frames(sizes ...int) []int {
	var list []int
	for i, size := range sizes {
		list = append(list, size)
		for at := range size {
			list = append(list, (7*i+at)%256)
		}
	}
	return list
}

// frameLists calls try with many lists of at most 2000 bytes that are frames, whole or torn, or none.
func frameLists(try func(list []int)) {
	shortLists(try)
	for _, list := range [][]int{
		frames(1),
		frames(200),
		frames(200)[:200],
		frames(201),
		frames(255),
		frames(1, 2, 3, 200, 1),
		frames(2, 1, 3, 1),
		frames(200, 200, 200, 200, 200),
		frames(200, 200, 200, 200, 201),
		frames(200, 200, 200, 200, 200, 200, 200, 200, 200, 190),
		append(frames(200, 200, 200, 200, 200, 200, 200, 200, 200, 189), 0),
		append(frames(200, 200, 200, 200, 200, 200, 200, 200, 200, 189), 1),
		append(frames(200, 200, 200, 200, 200, 200, 200, 200, 200), frames(191)[:191]...),
		frames(slices.Repeat([]int{1}, 1000)...),
		append(frames(slices.Repeat([]int{1}, 999)...), 0, 1),
		append(frames(slices.Repeat([]int{1}, 999)...), 1),
		append(frames(3), 0),
		append(frames(3), 0, 1, 1),
		append(frames(3), 201),
		append(frames(3), 4, 1, 1, 1),
		append([]int{0}, frames(3)...),
		append([]int{201}, frames(200)...),
		make([]int, 2000),
		slices.Repeat([]int{255}, 2000),
		slices.Repeat([]int{200}, 2000),
	} {
		try(list)
	}
	d := &dice{state: 53}
	for range 600 {
		var sizes []int
		most, length := 1+d.below(200), d.below(1700)
		for total := 0; total < length; total += 1 + sizes[len(sizes)-1] {
			sizes = append(sizes, 1+d.below(most))
		}
		list := frames(sizes...)
		try(list)
		for range 5 {
			if len(list) > 0 {
				list = d.changedList(list)
				try(list)
			}
		}
	}
}

// noByteLists returns lists that are no bytes.
func noByteLists() [][]int {
	var all [][]int
	for _, bad := range []int{-1, -128, -256, 256, 257, 300, 384, 1000, 1 << 32, math.MaxInt, math.MinInt} {
		all = append(all, []int{bad}, []int{0, bad}, []int{0, 5, bad}, []int{0, 200, bad}, []int{0, bad, 1}, []int{bad, 2}, []int{2, 2, bad, 2},
			[]int{1, 5, bad}, []int{1, bad}, []int{3, 5, bad}, []int{0, 0, bad}, []int{20, bad}, append(make([]int, 999), bad))
	}
	return all
}

// edgeTexts returns texts that are valid programs or not.
func edgeTexts() map[string]bool {
	all := map[string]bool{
		"": true, "int 0\n": true, "int 999\n": true, "text 9\n": true, "new 9\nput 19\nget 19\n": true, "mark\nstop\n": true, "stop\nstop\n": true,
		"int 1000\n": false, "int 10000\n": false, "text 10\n": false, "new 10\n": false, "put 20\n": false, "get 20\n": false, "int 1\nput 100\n": false,
		"int\n": false, "int \n": false, "int": false, "int 5": false, "int5\n": false, "int  5\n": false, "int 5 \n": false, " int 5\n": false,
		"int\t5\n": false, "int 5\t\n": false, "int 5\r\n": false, "int 5\r": false, "int 05\n": false, "int 00\n": false, "int 000\n": false, "int +5\n": false,
		"int -5\n": false, "int -0\n": false, "int -1\n": false, "int 5.0\n": false, "int 0x5\n": false, "int 1_0\n": false, "int 5e0\n": false,
		"int \u0665\n": false, "int 5 5\n": false, "int 5,\n": false, "int five\n": false, "int 5\x00\n": false, "int 18446744073709551621\n": false,
		"int 9223372036854775808\n": false, "int 99999999999999999999\n": false, "int -9223372036854775808\n": false,
		"mark 0\n": false, "mark \n": false, " mark\n": false, "mark\r\n": false, "mark": false, "stop 0\n": false, "pop 1\n": false, "tuple 0\n": false,
		"tuple 1\n": false, "tuple3\n": false, "list 0\n": false, "\n": false, "\n\n": false, " \n": false, " ": false, "\nint 5\n": false,
		"int 5\n\n": false, "int 5\n\nstop\n": false, "int 5\nstop": false, "int 5\nfoo\n": false, "foo\n": false, "foo 0\n": false, "Int 5\n": false,
		"MARK\n": false, "int 5 mark\n": false, "int 5\nint\n": false, "0 5\n": false, "5\n": false, "-1\n": false, "ints 5\n": false, "in 5\n": false,
		"appendd\n": false, "popmark\npopmar\n": false, "\xffmark\n": false, "mark\xff\n": false, "mark;stop\n": false, "mark\vstop\n": false,
	}
	return all
}

// changedText returns a text in which one byte was left out, put in or changed, or the last ones cut off.
func (d *dice) changedText(s string) string {
	const letters = " \n\n0123459+-aepmrkintdots\r\t\x00\xff"
	at, x := d.below(len(s)), letters[d.below(len(letters)):][:1]
	switch d.below(4) {
	case 0:
		return s[:at] + s[at+1:]
	case 1:
		return s[:at] + x + s[at:]
	case 2:
		return s[:at] + x + s[at+1:]
	}
	return s[:at]
}

// texts calls try with many texts: edgeTexts, those of short programs, and changed ones, of which some still are valid.
func texts(try func(s string)) {
	for s := range edgeTexts() {
		try(s)
	}
	d := &dice{state: 54}
	for _, ops := range slices.Concat(widePrograms(), edgePrograms()) {
		long := wantShown(ops)
		short := wantShown(ops[:min(3, len(ops))])
		try(long)
		for range 40 {
			if short != "" {
				try(d.changedText(short))
				try(d.changedText(d.changedText(short) + "stop\n"))
			}
		}
	}
}
