package tests

import (
	"fmt"
	"regexp"
	"strings"

	"loop.example/graphcode/impl"
)

// Programs of several roots are written by the reference writer and built by the reference machine; where they are cut is
// looked for in their texts, and lines of a desk are found by a regular expression.

// wantMany returns the program of roots of a valid graph, or nil if it is too long.
func wantMany(g impl.Graph, roots []int, level int) []impl.Op {
	if full := wantFullOf(g.Nodes, roots, level); len(full) <= 300 {
		return full
	}
	return nil
}

// does reports whether an order is possible. If it is not, it was done in part.
// It has no result but this one: a list that a function appends to is not kept where a panic ends it (go 1.27.3).
func (w *workshop) does(o impl.Op) (ok bool) {
	defer func() {
		r := recover()
		if r != nil && r != (impossible{}) {
			panic(r)
		}
		ok = r == nil
	}()
	w.do(o)
	return true
}

// wantReadMany keeps what the workshop made up to each stop, so that it is still there when a later order is not possible.
func wantReadMany(ops []impl.Op) (g impl.Graph, roots []int, end int) {
	w := &workshop{}
	for i, o := range ops {
		if !w.does(o) {
			break
		}
		if w.done {
			m := w.machine()
			g, roots, end = graph(0, m.Nodes...), append(roots, m.Stack[0]), i+1
			w.stack, w.done = nil, false
		}
	}
	return g, roots, end
}

const stopLine = "stop\n"

func wantSplit(ops []impl.Op) [][]impl.Op {
	var parts [][]impl.Op
	for s := range strings.SplitAfterSeq(wantShown(ops), stopLine) {
		if part, _ := wantRead(s); len(part) > 0 {
			parts = append(parts, part)
		}
	}
	return parts
}

// upToStop returns a program up to and with its last order to stop.
func upToStop(ops []impl.Op) []impl.Op {
	s := wantShown(ops)
	if at := strings.LastIndex(s, stopLine); at >= 0 {
		early, _ := wantRead(s[:at+len(stopLine)])
		return early
	}
	return nil
}

func wantStream(ops []impl.Op, most int) []int {
	var list []int
	for _, part := range wantSplit(ops) {
		list = append(list, wantFramed(wantBytes(part), most)...)
	}
	return list
}

// wantRecovered returns the program of a stream, and whether the list is one.
func wantRecovered(list []int) ([]impl.Op, bool) {
	content, size, _ := wantUnframed(list)
	ops, read := wantTorn(content)
	if size < 0 || read < 0 {
		return nil, false
	}
	return upToStop(ops), true
}

var kindLine = regexp.MustCompile(`^kind (0|[1-9][0-9]?[0-9]?)$`)

func wantDesk(list []int, lines []string) string {
	ops, ok := wantRecovered(list)
	if !ok || len(lines) > 20 {
		return ""
	}
	g, roots, end := wantReadMany(ops)
	kinds := map[string]string{}
	for i, root := range roots {
		kinds[fmt.Sprint("kind ", i)] = strings.Fields("int text tuple list dict obj")[g.Nodes[root].Kind]
	}
	var s string
	for _, line := range lines {
		answer := map[string]string{"roots": fmt.Sprint(len(roots)), "nodes": fmt.Sprint(len(g.Nodes)), "orders": fmt.Sprint(end)}[line]
		if answer == "" && kindLine.MatchString(line) {
			answer = kinds[line]
			if answer == "" {
				answer = "none"
			}
		}
		if answer == "" {
			answer = "what"
		}
		s += answer + "\n"
	}
	return s
}
