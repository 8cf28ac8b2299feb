package tests

import (
	"bytes"
	"encoding/binary"
	"fmt"
	"io"
	"slices"
	"strings"
	"sync"

	"loop.example/graphcode/impl"
)

// The reference looks bytes and lines up in tables of all orders that there are, and its numbers are those of encoding/binary.

// everyOrder has each valid order once.
var everyOrder = sync.OnceValue(func() []impl.Op {
	var all []impl.Op
	for code := range 20 {
		for arg := range 1000 {
			if o := (impl.Op{Code: code, Arg: arg}); wantOp(o) {
				all = append(all, o)
			}
		}
	}
	return all
})

// hasNumber reports whether orders of a code are written with a number.
func hasNumber(code int) bool {
	return wantOp(impl.Op{Code: code, Arg: 1})
}

func wantOrderBytes(o impl.Op) string {
	if !hasNumber(o.Code) {
		return string([]byte{byte(o.Code)})
	}
	return string(binary.AppendUvarint([]byte{byte(o.Code)}, uint64(o.Arg)))
}

func wantLine(o impl.Op) string {
	names := [...]string{"int", "text", "mark", "tuple", "tuple0", "tuple1", "tuple2", "list", "append", "appends",
		"dict", "setitem", "setitems", "new", "state", "put", "get", "pop", "popmark", "stop"}
	if !hasNumber(o.Code) {
		return names[o.Code] + "\n"
	}
	return fmt.Sprintf("%s %d\n", names[o.Code], o.Arg)
}

// ordersBy returns all orders by what writes each of them.
func ordersBy(write func(o impl.Op) string) map[string]impl.Op {
	all := map[string]impl.Op{}
	for _, o := range everyOrder() {
		all[write(o)] = o
	}
	return all
}

var ordersByBytes = sync.OnceValue(func() map[string]impl.Op { return ordersBy(wantOrderBytes) })

var ordersByLine = sync.OnceValue(func() map[string]impl.Op { return ordersBy(wantLine) })

// numbersOf returns bytes as a list.
func numbersOf(s string) []int {
	var list []int
	for _, b := range []byte(s) {
		list = append(list, int(b))
	}
	return list
}

// bytesOf returns a list as bytes, and whether it is at most most bytes.
func bytesOf(list []int, most int) (string, bool) {
	s := make([]byte, len(list))
	for i, x := range list {
		s[i] = byte(x)
	}
	return string(s), slices.Equal(numbersOf(string(s)), list) && len(list) <= most
}

// wantBytes returns the bytes of a valid program.
func wantBytes(ops []impl.Op) []int {
	var s strings.Builder
	for _, o := range ops {
		s.WriteString(wantOrderBytes(o))
	}
	return numbersOf(s.String())
}

// wantTorn looks for the bytes of one order after the other, which are never the beginning of those of another one.
func wantTorn(list []int) ([]impl.Op, int) {
	s, ok := bytesOf(list, 1000)
	if !ok {
		return nil, -1
	}
	var ops []impl.Op
	at := 0
	for size := 1; size <= 3 && at+size <= len(s) && len(ops) < 300; size++ {
		if o, ok := ordersByBytes()[s[at:at+size]]; ok {
			ops = append(ops, o)
			at += size
			size = 0
		}
	}
	return ops, at
}

func wantFramed(list []int, most int) []int {
	var framed []int
	for frame := range slices.Chunk(list, most) {
		framed = slices.Concat(framed, []int{len(frame)}, frame)
	}
	return framed
}

// wantUnframed returns the bytes of the whole frames, how many bytes these frames are, and how many frames.
func wantUnframed(list []int) (content []int, size int, frames int) {
	s, ok := bytesOf(list, 2000)
	if !ok {
		return nil, -1, 0
	}
	r := bytes.NewReader([]byte(s))
	for {
		count, err := r.ReadByte()
		if err != nil || count == 0 || count > 200 {
			return content, size, frames
		}
		frame := make([]byte, count)
		if _, err := io.ReadFull(r, frame); err != nil {
			return content, size, frames
		}
		content = append(content, numbersOf(string(frame))...)
		size = len(list) - r.Len()
		frames++
	}
}

// wantShown returns the text of a valid program.
func wantShown(ops []impl.Op) string {
	var s string
	for _, o := range ops {
		s += wantLine(o)
	}
	return s
}

func wantRead(s string) ([]impl.Op, bool) {
	var ops []impl.Op
	for line := range strings.SplitAfterSeq(s, "\n") {
		o, ok := ordersByLine()[line]
		if !ok && line != "" {
			return nil, false
		}
		if ok {
			ops = append(ops, o)
		}
	}
	if len(ops) > 300 {
		return nil, false
	}
	return ops, true
}
