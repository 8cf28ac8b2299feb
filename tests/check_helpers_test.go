package tests

import (
	"slices"
	"sync"

	"loop.example/graphcode/impl"
)

// checkable calls try with many valid programs: those of the machine, those of the writer with tuples on cycles, and changedPrograms.
func checkable(try func(ops []impl.Op)) {
	programs(try)
	for _, g := range knots() {
		for root := range g.Nodes {
			try(wantProgram(rooted(g, root), 0))
			try(wantProgram(rooted(g, root), 1))
		}
	}
	for _, ops := range changedPrograms() {
		try(slices.Clone(ops))
	}
}

// changedPrograms has programs in which one order was left out, put in or changed, or the last ones cut off.
var changedPrograms = sync.OnceValue(func() [][]impl.Op {
	var all [][]impl.Op
	d := &dice{state: 41}
	for _, long := range longPrograms() {
		for range 4 {
			if len(long) == 0 {
				continue
			}
			ops, at := slices.Clone(long), d.below(len(long))
			switch d.below(4) {
			case 0:
				ops = slices.Delete(ops, at, at+1)
			case 1:
				ops = slices.Insert(ops, at, d.anyOp())
			case 2:
				ops[at] = d.anyOp()
			case 3:
				ops = ops[:at]
			}
			if wantOps(ops) {
				all = append(all, ops)
			}
		}
	}
	return all
})

// programsOfNoGraph returns valid programs that IsWhole is false for: they end early, go on behind the end, or leave marks open.
func programsOfNoGraph() []string {
	return []string{
		"", "int=1", "list", "mark", "mark stop", "mark int=1 stop", "int=1 mark stop", "stop", "stop int=1 stop", "int=1 int=2 stop",
		"int=1 stop stop", "int=1 stop int=2", "int=1 stop pop", "int=1 stop mark", "int=1 stop popmark", "int=1 stop put=0",
		"mark int=1 tuple", "list mark appends", "int=1 pop stop", "mark int=1 popmark stop", "int=1 append stop", "get=0 stop", "int=1 put=0 get=0 stop",
		"list put=0 get=0 append", "dict mark int=1 setitems stop", "new int=1 state int=2 state stop", repeated("int=1", 300), repeated("mark", 300),
	}
}

func isZeroShapes(s impl.Shapes) bool {
	return s.Kinds == nil && s.Full == nil && s.Stack == nil && s.Memo == nil && !s.Done
}

func identicalShapes(a impl.Shapes, b impl.Shapes) bool {
	return slices.Equal(a.Kinds, b.Kinds) && slices.Equal(a.Full, b.Full) && slices.Equal(a.Stack, b.Stack) && slices.Equal(a.Memo, b.Memo) && a.Done == b.Done
}
