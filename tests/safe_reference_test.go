package tests

import (
	"slices"

	"loop.example/graphcode/impl"
)

// Where a reader ends is expected here from the orders that each rule alone would not allow: the first of these is the end.

// trace is what the reference machine told of a valid program: of its possible orders, how many nodes and things there were
// after each of them, and whether it was done then.
type trace struct {
	ops           []impl.Op
	nodes, depths []int
	done          bool
}

func traceOf(ops []impl.Op) trace {
	w, depths, _ := builtBy(ops)
	t := trace{ops: ops, depths: depths, done: w.done}
	made := 0
	for _, o := range ops[:len(depths)] {
		if slices.Contains([]int{0, 1, 3, 4, 5, 6, 7, 10, 13}, o.Code) {
			made++
		}
		t.nodes = append(t.nodes, made)
	}
	return t
}

// firstAbove returns the first index of a number above a limit, and the length of the list if there is none.
func firstAbove(list []int, limit int) int {
	for i, x := range list {
		if x > limit {
			return i
		}
	}
	return len(list)
}

func (t trace) wantSafe(r impl.Rules) (int, int) {
	class := slices.IndexFunc(t.ops, func(o impl.Op) bool { return o.Code == 13 && !slices.Contains(r.Classes, o.Arg) })
	if class < 0 {
		class = len(t.ops)
	}
	all := len(t.depths)
	ends := []int{all, r.Steps, class, firstAbove(t.nodes, r.Nodes), firstAbove(t.depths, r.Deep)}
	end := slices.Min(ends)
	switch {
	case end < len(t.ops):
		return end, 1 + slices.Index(ends, end)
	case t.done:
		return end, 0
	}
	return end, 6
}

func (t trace) wantLeastRules() (impl.Rules, bool) {
	if len(t.depths) < len(t.ops) {
		return impl.Rules{}, false
	}
	r := impl.Rules{Steps: len(t.ops), Classes: wantClassesIn(t.ops)}
	for i, depth := range t.depths {
		r.Nodes = t.nodes[i]
		r.Deep = max(r.Deep, depth)
	}
	return r, true
}

func wantClassesIn(ops []impl.Op) []int {
	var all []int
	for _, o := range ops {
		if o.Code == 13 {
			all = append(all, o.Arg)
		}
	}
	slices.Sort(all)
	return slices.Compact(all)
}

func wantRules(r impl.Rules) bool {
	classes := map[int]bool{}
	for _, class := range r.Classes {
		if class < 0 || class > 9 || classes[class] {
			return false
		}
		classes[class] = true
	}
	return r.Steps >= 0 && r.Nodes >= 0 && r.Deep >= 0 && r.Steps <= 300 && r.Nodes <= 300 && r.Deep <= 300
}

func wantAllow(a impl.Rules, b impl.Rules) bool {
	if !wantRules(a) || !wantRules(b) || a.Steps < b.Steps || a.Nodes < b.Nodes || a.Deep < b.Deep {
		return false
	}
	both := slices.Concat(a.Classes, b.Classes)
	slices.Sort(both)
	return len(slices.Compact(both)) == len(a.Classes)
}

// wantForbidden looks at the objects that get states in the program itself, where these are still objects.
func (t trace) wantForbidden(class int) []impl.Op {
	if len(t.depths) < len(t.ops) || class < 0 || class > 9 {
		return nil
	}
	var changed []impl.Op
	w := &workshop{}
	for _, o := range t.ops {
		other := o
		if o == (impl.Op{Code: 13, Arg: class}) {
			other = impl.Op{Code: 7}
		} else if o.Code == 14 && w.stack[len(w.stack)-2].value == class {
			other = impl.Op{Code: 8}
		}
		changed = append(changed, other)
		w.do(o)
	}
	return changed
}
