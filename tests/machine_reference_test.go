package tests

import (
	"slices"

	"loop.example/graphcode/impl"
)

// The reference machine builds objects that are held by pointers, takes things one by one, and panics where an order is not
// possible; the machine that it began with is then still there.

// thing is an object that the reference machine builds; on its stack nil is a mark.
type thing struct {
	kind, value int
	kids        []*thing
}

type workshop struct {
	made  []*thing
	stack []*thing
	memo  [20]*thing
	done  bool
}

// impossible is what a workshop panics with.
type impossible struct{}

func need(ok bool) {
	if !ok {
		panic(impossible{})
	}
}

func (w *workshop) make(kind int, value int, kids ...*thing) {
	need(len(w.made) < 300)
	x := &thing{kind, value, kids}
	w.made = append(w.made, x)
	w.push(x)
}

func (w *workshop) push(x *thing) {
	need(len(w.stack) < 300)
	w.stack = append(w.stack, x)
}

func (w *workshop) pop() *thing {
	need(len(w.stack) > 0)
	x := w.stack[len(w.stack)-1]
	w.stack = w.stack[:len(w.stack)-1]
	return x
}

func (w *workshop) popNode() *thing {
	x := w.pop()
	need(x != nil)
	return x
}

func (w *workshop) popToMark() []*thing {
	var all []*thing
	for x := w.pop(); x != nil; x = w.pop() {
		all = append(all, x)
	}
	slices.Reverse(all)
	return all
}

func (w *workshop) top() *thing {
	x := w.popNode()
	w.push(x)
	return x
}

func (w *workshop) topOf(kind int) *thing {
	x := w.top()
	need(x.kind == kind)
	return x
}

func (w *workshop) set(dict *thing, pairs ...*thing) {
	need(len(pairs)%2 == 0)
	for i, key := range pairs {
		if i%2 == 1 {
			continue
		}
		need(key.kind <= 1)
		at := 0
		for at < len(dict.kids) && (dict.kids[at].kind != key.kind || dict.kids[at].value != key.value) {
			at += 2
		}
		if at == len(dict.kids) {
			dict.kids = append(dict.kids, key, nil)
		}
		dict.kids[at+1] = pairs[i+1]
	}
}

func (w *workshop) do(o impl.Op) {
	need(!w.done)
	switch o.Code {
	case 0, 1:
		w.make(o.Code, o.Arg)
	case 2:
		w.push(nil)
	case 3:
		w.make(2, 0, w.popToMark()...)
	case 4:
		w.make(2, 0)
	case 5:
		w.make(2, 0, w.popNode())
	case 6:
		last := w.popNode()
		w.make(2, 0, w.popNode(), last)
	case 7:
		w.make(3, 0)
	case 8:
		x := w.popNode()
		w.topOf(3).kids = append(w.topOf(3).kids, x)
	case 9:
		all := w.popToMark()
		w.topOf(3).kids = append(w.topOf(3).kids, all...)
	case 10:
		w.make(4, 0)
	case 11:
		value := w.popNode()
		key := w.popNode()
		w.set(w.topOf(4), key, value)
	case 12:
		all := w.popToMark()
		w.set(w.topOf(4), all...)
	case 13:
		w.make(5, o.Arg)
	case 14:
		state := w.popNode()
		need(len(w.topOf(5).kids) == 0)
		w.topOf(5).kids = []*thing{state}
	case 15:
		w.memo[o.Arg] = w.top()
	case 16:
		need(w.memo[o.Arg] != nil)
		w.push(w.memo[o.Arg])
	case 17:
		w.popNode()
	case 18:
		w.popToMark()
	case 19:
		w.top()
		need(len(w.stack) == 1)
		w.done = true
	}
}

// thingOf returns the thing of an index, and nil for -1.
func (w *workshop) thingOf(i int) *thing {
	if i < 0 {
		return nil
	}
	return w.made[i]
}

func workshopOf(m impl.Machine) *workshop {
	w := &workshop{done: m.Done}
	for _, n := range m.Nodes {
		w.made = append(w.made, &thing{kind: n.Kind, value: n.Value})
	}
	for i, n := range m.Nodes {
		for _, k := range n.Kids {
			w.made[i].kids = append(w.made[i].kids, w.made[k])
		}
	}
	for _, i := range m.Stack {
		w.stack = append(w.stack, w.thingOf(i))
	}
	for place, i := range m.Memo {
		w.memo[place] = w.thingOf(i)
	}
	return w
}

func (w *workshop) machine() impl.Machine {
	index := map[*thing]int{nil: -1}
	for i, x := range w.made {
		index[x] = i
	}
	indices := func(things []*thing) []int {
		var list []int
		for _, x := range things {
			list = append(list, index[x])
		}
		return list
	}
	m := impl.Machine{Stack: indices(w.stack), Memo: indices(w.memo[:]), Done: w.done}
	for _, x := range w.made {
		m.Nodes = append(m.Nodes, impl.Node{Kind: x.kind, Value: x.value, Kids: indices(x.kids)})
	}
	return m
}

// wantNew returns the machine without anything.
func wantNew() impl.Machine {
	return (&workshop{}).machine()
}

func wantOp(o impl.Op) bool {
	if o.Code < 0 || o.Code > 19 || o.Arg < 0 {
		return false
	}
	return o.Arg <= map[int]int{0: 999, 1: 9, 13: 9, 15: 19, 16: 19}[o.Code]
}

func wantOps(ops []impl.Op) bool {
	return len(ops) <= 300 && !slices.ContainsFunc(ops, func(o impl.Op) bool { return !wantOp(o) })
}

func wantMachine(m impl.Machine) bool {
	out := func(i int) bool { return i < 0 || i >= len(m.Nodes) }
	outOrNone := func(i int) bool { return i != -1 && out(i) }
	if len(m.Nodes) > 300 || len(m.Stack) > 300 || len(m.Memo) != 20 {
		return false
	}
	if slices.ContainsFunc(m.Stack, outOrNone) || slices.ContainsFunc(m.Memo, outOrNone) {
		return false
	}
	for _, n := range m.Nodes {
		if n.Kind < 0 || n.Kind > 5 || n.Value < 0 || n.Value > 999 || slices.ContainsFunc(n.Kids, out) {
			return false
		}
		if n.Kind == 5 && len(n.Kids) > 1 || n.Kind == 4 && len(n.Kids)%2 == 1 {
			return false
		}
		for i, k := range n.Kids {
			if n.Kind == 4 && i%2 == 0 && m.Nodes[k].Kind > 1 {
				return false
			}
		}
	}
	return !m.Done || len(m.Stack) == 1 && m.Stack[0] >= 0
}

func wantStep(m impl.Machine, o impl.Op) (next impl.Machine, ok bool) {
	if !wantMachine(m) || !wantOp(o) {
		return impl.Machine{}, false
	}
	defer func() {
		if r := recover(); r == (impossible{}) {
			next, ok = impl.Machine{}, false
		} else if r != nil {
			panic(r)
		}
	}()
	w := workshopOf(m)
	w.do(o)
	return w.machine(), true
}

func wantRun(ops []impl.Op) (impl.Machine, int) {
	if !wantOps(ops) {
		return impl.Machine{}, -1
	}
	m := wantNew()
	for i, o := range ops {
		next, ok := wantStep(m, o)
		if !ok {
			return m, i
		}
		m = next
	}
	return m, len(ops)
}

func wantBuilt(ops []impl.Op) (impl.Graph, bool) {
	m, count := wantRun(ops)
	if count < len(ops) || !m.Done {
		return impl.Graph{}, false
	}
	return impl.Graph{Nodes: m.Nodes, Root: m.Stack[0]}, true
}
