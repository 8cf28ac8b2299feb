package tests

import (
	"slices"

	"loop.example/graphcode/impl"
)

// What is known by kinds alone is expected here from what the reference machine builds.

// builtBy returns a workshop that has done as many orders as are possible, and how many things and marks were on its stack
// after each of them.
func builtBy(ops []impl.Op) (w *workshop, depths []int, marks []int) {
	w = &workshop{}
	defer func() {
		if r := recover(); r == (impossible{}) {
			// The last order was done in part.
			w, depths, marks = builtBy(ops[:len(depths)])
		} else if r != nil {
			panic(r)
		}
	}()
	for _, o := range ops {
		w.do(o)
		depths = append(depths, len(w.stack))
		marks = append(marks, w.marks())
	}
	return w, depths, marks
}

func (w *workshop) marks() int {
	count := 0
	for _, x := range w.stack {
		if x == nil {
			count++
		}
	}
	return count
}

func (w *workshop) shapes() impl.Shapes {
	m := w.machine()
	s := impl.Shapes{Stack: m.Stack, Memo: m.Memo, Done: m.Done}
	for _, x := range w.made {
		s.Kinds = append(s.Kinds, x.kind)
		s.Full = append(s.Full, x.kind == 5 && len(x.kids) > 0)
	}
	return s
}

// wantEnd counts the orders that are needed: one for each mark, and one for each thing but one that is left then.
func wantEnd(ops []impl.Op) ([]impl.Op, bool) {
	w, depths, _ := builtBy(ops)
	if w.done {
		return nil, true
	}
	left := len(w.stack)
	if lowest := slices.Index(w.stack, nil); lowest >= 0 {
		left = lowest + 1
	}
	s := repeated("tuple", w.marks())
	if left == 0 {
		s += "tuple0 "
	} else {
		s += repeated("tuple2", left-1)
	}
	end := program(s + "stop")
	if len(depths)+len(end) > 300 {
		return nil, false
	}
	return end, true
}

// wantTakes has what the document says an order of a code takes and pushes.
func wantTakes(code int) (int, int) {
	switch code {
	case 0, 1, 2, 4, 7, 10, 13, 16:
		return 0, 1
	case 5:
		return 1, 1
	case 6:
		return 2, 1
	case 8, 14, 17:
		return 1, 0
	case 11:
		return 2, 0
	case 15, 19:
		return 0, 0
	case 3:
		return -1, 1
	case 9, 12, 18:
		return -1, 0
	}
	return -2, -2
}
