package tests

import (
	"math"
	"slices"
	"strconv"
	"strings"
	"sync"
	"testing"

	"loop.example/g00423/impl"
)

// endWords tell how a run ends, by number.
func endWords() []string { return []string{"done", "fuel", "input", "over", "moved", "gone"} }

// endingTold tells an Ending in short: 4 1 done.
func endingTold(e impl.Ending) string {
	told := ""
	for _, n := range e.Out {
		told += strconv.Itoa(n) + " "
	}
	if 0 <= e.End && e.End < len(endWords()) {
		return told + endWords()[e.End]
	}
	return told + "end " + strconv.Itoa(e.End)
}

// A walk goes through a program as the document tells it, with a memory that is handed on from call to call. What goes wrong stops it.
type walk struct {
	p     impl.Program
	m     impl.Memory
	spent int
	// The vars of each function, by its name: its Params, and what is let in it.
	names map[string][]string
}

type walkStop struct{}

// holds has a Bad stop the walk.
func (w *walk) holds() {
	if w.m.Bad != impl.OutDone {
		panic(walkStop{})
	}
}

func (w *walk) spend() {
	w.m = impl.Spend(w.m)
	w.holds()
	w.spent++
}

func (w *walk) call(fn impl.Fn, given []impl.Value) impl.Value {
	vars := map[string]impl.Value{}
	for k, param := range fn.Params {
		vars[param.Name] = given[k]
	}
	for _, step := range w.p.Nodes[fn.Body].Kids {
		w.step(vars, step)
	}
	var v impl.Value
	if fn.Ret >= 0 {
		v = w.value(vars, fn.Ret)
	}
	w.free(vars, w.names[fn.Name])
	return v
}

func (w *walk) free(vars map[string]impl.Value, names []string) {
	for k := len(names) - 1; k >= 0; k-- {
		if v := vars[names[k]]; v.Type == impl.TyBox {
			w.m = impl.Freed(w.m, v)
			delete(vars, names[k])
		}
	}
}

func (w *walk) block(vars map[string]impl.Value, k int) {
	var names []string
	for _, step := range w.p.Nodes[k].Kids {
		w.step(vars, step)
		if n := w.p.Nodes[step]; n.Kind == impl.NdLet {
			names = append(names, n.Name)
		}
	}
	w.free(vars, names)
}

func (w *walk) step(vars map[string]impl.Value, k int) {
	w.spend()
	n := w.p.Nodes[k]
	switch n.Kind {
	case impl.NdLet:
		vars[n.Name] = w.value(vars, n.Kids[0])
	case impl.NdSet:
		v := w.value(vars, n.Kids[0])
		w.m = impl.Freed(w.m, vars[n.Name])
		vars[n.Name] = v
	case impl.NdStore:
		v := w.value(vars, n.Kids[0])
		w.m = impl.Written(w.m, w.used(vars, n.Name), v.Num)
	case impl.NdIf:
		if w.value(vars, n.Kids[0]).Num != 0 {
			w.block(vars, n.Kids[1])
		} else {
			w.block(vars, n.Kids[2])
		}
	case impl.NdWhile:
		for w.value(vars, n.Kids[0]).Num != 0 {
			w.block(vars, n.Kids[1])
		}
	case impl.NdPrint:
		w.m = impl.Told(w.m, w.value(vars, n.Kids[0]).Num)
	case impl.NdDo:
		w.m = impl.Freed(w.m, w.value(vars, n.Kids[0]))
	}
	w.holds()
}

func (w *walk) used(vars map[string]impl.Value, name string) impl.Value {
	v, has := vars[name]
	if !has {
		w.m.Bad = impl.OutMoved
		w.holds()
	}
	return v
}

func (w *walk) value(vars map[string]impl.Value, k int) impl.Value {
	w.spend()
	n := w.p.Nodes[k]
	var kids []impl.Value
	for _, kid := range n.Kids {
		kids = append(kids, w.value(vars, kid))
	}
	v := impl.Value{Type: impl.TyInt}
	switch n.Kind {
	case impl.NdNum:
		v.Num = n.Num
	case impl.NdInput:
		w.m, v.Num = impl.Asked(w.m)
	case impl.NdNew:
		w.m, v = impl.Fresh(w.m, kids[0].Num)
	case impl.NdAdd:
		w.m, v.Num = impl.Summed(w.m, kids[0].Num, kids[1].Num)
	case impl.NdLess:
		v.Num = map[bool]int{true: 1}[kids[0].Num < kids[1].Num]
	case impl.NdSame:
		v.Num = map[bool]int{true: 1}[kids[0].Num == kids[1].Num]
	case impl.NdCall:
		at := slices.IndexFunc(w.p.Fns, func(fn impl.Fn) bool { return fn.Name == n.Name })
		v = w.call(w.p.Fns[at], kids)
	default:
		v = w.use(vars, n)
	}
	w.holds()
	return v
}

// use is value of a node that uses the name of a var.
func (w *walk) use(vars map[string]impl.Value, n impl.Node) impl.Value {
	v := w.used(vars, n.Name)
	switch n.Kind {
	case impl.NdRead:
		var num int
		w.m, num = impl.Looked(w.m, v)
		return impl.Value{Type: impl.TyInt, Num: num}
	case impl.NdClone:
		var num int
		w.m, num = impl.Looked(w.m, v)
		w.holds()
		w.m, v = impl.Fresh(w.m, num)
	case impl.NdLend:
		v.Type = impl.TyRef
	case impl.NdMut:
		v.Type = impl.TyMut
	case impl.NdVar:
		if v.Type == impl.TyBox || v.Type == impl.TyMut {
			delete(vars, n.Name)
			w.m, v = impl.Moved(w.m, v)
		}
	}
	return v
}

// walkOf makes a program that is known to be right ready for walks.
func walkOf(p impl.Program) walk {
	w := walk{p: p, names: map[string][]string{}}
	for at, fn := range p.Fns {
		for _, v := range varsByRule(p, at) {
			w.names[fn.Name] = append(w.names[fn.Name], v.Name)
		}
	}
	return w
}

// ends is RunTree, and how much fuel it spent; each walk begins anew.
func (w walk) ends(input []int, fuel int) (e impl.Ending, spent int) {
	w.m, w.spent = impl.MemoryNew(input, min(fuel, 100000)), 0
	defer func() {
		if stopped := recover(); stopped != nil && stopped != (walkStop{}) {
			panic(stopped)
		}
		e, spent = impl.Ending{Out: w.m.Out, End: w.m.Bad}, w.spent
	}()
	w.call(w.p.Fns[len(w.p.Fns)-1], nil)
	return e, spent
}

// mayRun tells whether a program is one that is run at all.
func mayRun(p impl.Program) bool {
	return namesByRule(p) && typesRightByRule(p) && len(p.Fns[len(p.Fns)-1].Params) == 0
}

// endingByRule is RunTree of any program.
func endingByRule(p impl.Program, input []int, fuel int) impl.Ending {
	if !mayRun(p) {
		return impl.Ending{End: impl.OutMoved}
	}
	e, _ := walkOf(p).ends(input, fuel)
	return e
}

func runsTo(t *testing.T, what string, p impl.Program, input []int, fuel int, want string) {
	t.Helper()
	if got := endingTold(impl.RunTree(p, input, fuel)); got != want {
		t.Errorf("RunTree with %v and a fuel of %d is %s; want %s: %s", input, fuel, got, want, what)
	}
}

// A run is a program, what it is given, how it ends, and how much fuel that takes.
type run struct {
	text  string
	input []int
	need  int
	want  string
}

// inMain gives a program of one function that does this.
func inMain(text string) string { return "fn main() { " + text + " }" }

// holds asks for the run with each fuel up to what it needs, and with more.
func (r run) holds(t *testing.T) {
	t.Helper()
	p := mustRead(t, r.text)
	if !impl.TypesRight(p) {
		t.Fatalf("TypesRight = false of the test's program %s", r.text)
	}
	for _, fuel := range []int{r.need, r.need + 1, r.need + 77, impl.MaxFuel, impl.MaxFuel + 1, math.MaxInt} {
		runsTo(t, r.text, p, r.input, fuel, r.want)
	}
	full, w := impl.RunTree(p, r.input, r.need), walkOf(p)
	for fuel := range r.need {
		got := impl.RunTree(p, r.input, fuel)
		if got.End != impl.OutFuel || len(got.Out) > len(full.Out) || !slices.Equal(got.Out, full.Out[:len(got.Out)]) {
			t.Errorf("RunTree with %v and a fuel of %d, where %d are needed, is %s: %s", r.input, fuel, r.need, endingTold(got), r.text)
		}
		if want, _ := w.ends(r.input, fuel); !sameEnding(got, want) {
			t.Errorf("RunTree with %v and a fuel of %d is %s; want %s: %s", r.input, fuel, endingTold(got), endingTold(want), r.text)
		}
	}
	if want, spent := w.ends(r.input, math.MaxInt); endingTold(want) != r.want || spent != r.need {
		t.Errorf("the test's own walk ends as %s with %d: %s", endingTold(want), spent, r.text)
	}
}

func sameEnding(a, b impl.Ending) bool { return a.End == b.End && slices.Equal(a.Out, b.Out) }

func TestRunOfNumbers(t *testing.T) {
	for _, r := range []run{
		{"", nil, 0, "done"},
		{"print 5;", nil, 2, "5 done"},
		{"print 0;", nil, 2, "0 done"},
		{"print 1000000000;", nil, 2, "1000000000 done"},
		{"print input;", []int{8}, 2, "8 done"},
		{"print input;", []int{8, 9}, 2, "8 done"},
		{"print input;", nil, 2, "input"},
		{"print input; print input;", []int{8, 9}, 4, "8 9 done"},
		{"print input; print input;", []int{8}, 4, "8 input"},
		{"print input;", []int{-5}, 2, "-5 done"},
		{"print input;", []int{math.MaxInt}, 2, "9223372036854775807 done"},
		{"print 2 + 3;", nil, 4, "5 done"},
		{"print 1 + 2 + 3 + 4;", nil, 8, "10 done"},
		{"print 1 + (2 + 3);", nil, 6, "6 done"},
		{"print 999999999 + 1;", nil, 4, "1000000000 done"},
		{"print 1000000000 + 0;", nil, 4, "1000000000 done"},
		{"print 1000000000 + 1;", nil, 4, "over"},
		{"print 500000000 + 500000001;", nil, 4, "over"},
		{"print 7; print 1 + 1000000000; print 8;", nil, 6, "7 over"},
		{"print input + 0;", []int{-1}, 4, "over"},
		{"print 5 + input;", []int{-1}, 4, "over"},
		{"print input + 0;", []int{1000000001}, 4, "over"},
		{"print input + input;", []int{math.MaxInt, math.MaxInt}, 4, "over"},
		{"print input + input;", []int{math.MinInt, math.MinInt}, 4, "over"},
		{"print input + 1;", nil, 3, "input"},
		{"print (999999999 + 2) + input;", nil, 5, "over"},
		{"print 1 < 2;", nil, 4, "1 done"},
		{"print 2 < 2;", nil, 4, "0 done"},
		{"print 3 < 2;", nil, 4, "0 done"},
		{"print input < input;", []int{1, 2}, 4, "1 done"},
		{"print input < input;", []int{2, 1}, 4, "0 done"},
		{"print input < input;", []int{math.MinInt, math.MaxInt}, 4, "1 done"},
		{"print input < 0;", []int{-3}, 4, "1 done"},
		{"print 2 == 2;", nil, 4, "1 done"},
		{"print 2 == 3;", nil, 4, "0 done"},
		{"print input == input;", []int{-7, -7}, 4, "1 done"},
		{"print (1 < 2) == (3 < 4);", nil, 8, "1 done"},
		{"print 1 + 2 < 3;", nil, 6, "0 done"},
		{"let a = 5; print a; print a + a;", nil, 8, "5 10 done"},
	} {
		r.text = inMain(r.text)
		r.holds(t)
	}
}

func TestRunOfBoxes(t *testing.T) {
	for _, r := range []run{
		{"let a = new 5; print *a;", nil, 5, "5 done"},
		{"let a = new 5; print *a + *a;", nil, 7, "10 done"},
		{"let a = new (2 + 3); print *a;", nil, 7, "5 done"},
		{"let a = new input; print *a;", []int{-4}, 5, "-4 done"},
		{"let a = new input;", nil, 3, "input"},
		{"let a = new 5; let b = a; print *b;", nil, 7, "5 done"},
		{"let a = new 5; let b = clone a; print *a; print *b;", nil, 9, "5 5 done"},
		{"let a = new 5; let b = clone a; *b = 6; print *a; print *b;", nil, 11, "5 6 done"},
		{"let a = new 5; let b = clone a; *a = 6; print *a; print *b;", nil, 11, "6 5 done"},
		{"let a = new 5; let r = &a; print *r; print *a; print *r;", nil, 11, "5 5 5 done"},
		{"let a = new 5; let r = &a; *a = 6; print *r;", nil, 9, "6 done"},
		{"let a = new 5; let r = &a; let s = r; print *r + *s;", nil, 11, "10 done"},
		{"let a = new 5; let r = &a; let b = clone r; *b = 6; print *r; print *b;", nil, 13, "5 6 done"},
		{"let a = new 5; let m = &mut a; print *m; print *a;", nil, 9, "5 5 done"},
		{"let a = new 5; let m = &mut a; *m = 6; print *a; print *m;", nil, 11, "6 6 done"},
		{"let a = new 5; let m = &mut a; let n = m; *n = 7; print *a;", nil, 11, "7 done"},
		{"let a = new 5; let m = &mut a; let b = clone m; *m = 6; print *a + *b;", nil, 13, "11 done"},
	} {
		r.text = inMain(r.text)
		r.holds(t)
	}
}

func TestRunOfEachStatement(t *testing.T) {
	for _, r := range []run{
		{"let a = 5;", nil, 2, "done"},
		{"let a = 5; a = 6; print a;", nil, 6, "6 done"},
		{"let a = 5; a = a + a; a = a + 1; print a;", nil, 12, "11 done"},
		{"let a = 5; let b = a; a = 6; print a; print b;", nil, 10, "6 5 done"},
		{"let a = new 5; a = new 6; print *a;", nil, 8, "6 done"},
		{"let a = new 5; a = clone a; print *a;", nil, 7, "5 done"},
		{"let a = new 5; a = a; print *a;", nil, 7, "5 done"},
		{"let a = new 5; let b = a; a = b; print *a;", nil, 9, "5 done"},
		{"let a = new 5; let b = a; a = new 6; print *a; print *b;", nil, 12, "6 5 done"},
		{"let a = new 5; let b = new 6; let c = a; a = b; b = c; print *a; print *b;", nil, 16, "6 5 done"},
		{"let a = new 5; *a = 6; *a = *a + 1; print *a;", nil, 11, "7 done"},
		{"let a = new 5; *a = input; print *a;", []int{-9}, 7, "-9 done"},
		{"let a = new 5; *a = input;", nil, 5, "input"},
		{"if 1 { print 1; } else { print 2; } print 3;", nil, 6, "1 3 done"},
		{"if 0 { print 1; } else { print 2; } print 3;", nil, 6, "2 3 done"},
		{"if 2 { print 1; } else { print 2; }", nil, 4, "1 done"},
		{"if 1000000000 { print 1; } else { print 2; }", nil, 4, "1 done"},
		{"if input { print 1; } else { print 2; }", []int{-1}, 4, "1 done"},
		{"if input { print 1; } else { print 2; }", nil, 2, "input"},
		{"if 2 == 3 { print 1; } else { print 2; }", nil, 6, "2 done"},
		{"if 1 { } else { print 2; }", nil, 2, "done"},
		{"if 0 { print 1; } else { }", nil, 2, "done"},
		{"if 0 { } else { } print 4;", nil, 4, "4 done"},
		{"if 1 { let a = 5; print a; } else { let b = 6; print b; }", nil, 6, "5 done"},
		{"if 1 { if 0 { print 1; } else { print 2; } print 3; } else { print 4; }", nil, 8, "2 3 done"},
		{"while 0 { print 1; }", nil, 2, "done"},
		{"while 0 { } print 4;", nil, 4, "4 done"},
		{"while 3 < 2 { print 1; } print 4;", nil, 6, "4 done"},
		{"while input { }", []int{0}, 2, "done"},
		{"while input { }", []int{1, 0}, 3, "done"},
		{"while input { }", nil, 2, "input"},
		{"while input { }", []int{1}, 3, "input"},
		{"while input { print 7; }", []int{1, 0}, 5, "7 done"},
		{"while input { print 7; }", []int{1, 2, -1, 0, 5}, 11, "7 7 7 done"},
		{"while input { print input; }", []int{1, 8, 1, 9, 0}, 8, "8 9 done"},
		{"while input { print input; }", []int{1, 8, 1}, 7, "8 input"},
		{"let n = 0; while n < 3 { print n; n = n + 1; }", nil, 33, "0 1 2 done"},
		{"let n = 0; while n < 3 { print n; n = n + 1; } print 9;", nil, 35, "0 1 2 9 done"},
		{"let b = new 0; while *b < 2 { print *b; *b = *b + 1; }", nil, 25, "0 1 done"},
		{"let n = 0; while n < 2 { let m = 0; while m < 2 { print n + m; m = m + 1; } n = n + 1; }", nil, 76, "0 1 1 2 done"},
		{"while input { if input { print 1; } else { print 2; } }", []int{5, 1, 5, 0, 0}, 12, "1 2 done"},
		{"print 1; print 2; print 3;", nil, 6, "1 2 3 done"},
	} {
		r.text = inMain(r.text)
		r.holds(t)
	}
}

func TestRunOfCalls(t *testing.T) {
	for _, r := range []run{
		{"fn f() { } fn main() { do f(); }", nil, 2, "done"},
		{"fn f() { print 1; } fn main() { do f(); print 2; }", nil, 6, "1 2 done"},
		{"fn f() { print 1; } fn main() { print 2; }", nil, 2, "2 done"},
		{"fn main() { print 1; } fn f() { print 2; }", nil, 2, "2 done"},
		{"fn f() -> int { ret 3; } fn main() { print f() + f(); }", nil, 6, "6 done"},
		{"fn f() -> int { ret 3; } fn main() { do f(); }", nil, 3, "done"},
		{"fn f() -> int { let a = 1; print a; ret a + 1; } fn main() { print f(); }", nil, 9, "1 2 done"},
		{"fn f() -> int { let a = 1; ret a; } fn main() { let a = 2; print f(); print a; }", nil, 9, "1 2 done"},
		{"fn f(a: int) -> int { a = a + 1; ret a; } fn main() { let a = 2; print f(a); print a; }", nil, 12, "3 2 done"},
		{"fn f(a: int, b: int, c: int) { print a; print b; print c; } fn main() { do f(input, input, input); }", []int{1, 2, 3}, 11, "1 2 3 done"},
		{"fn f(a: int, b: int, c: int) { print a; } fn main() { do f(1, input, 3); }", nil, 4, "input"},
		{"fn f(a: int, b: int) -> int { ret a < b; } fn main() { print f(1, 2); print f(2, 1); }", nil, 14, "1 0 done"},
		// Boxes that are lent, to look at and to write.
		{"fn f(r: &box) -> int { ret *r; } fn main() { let a = new 5; print f(&a); print f(&a); print *a; }", nil, 13, "5 5 5 done"},
		{"fn f(r: &box) { } fn main() { let a = new 5; let r = &a; do f(r); do f(r); print *r; }", nil, 13, "5 done"},
		{"fn f(r: &box, s: &box) -> int { ret *r + *s; } fn main() { let a = new 5; let b = new 6; print f(&a, &b) + f(&b, &b); }", nil, 20, "23 done"},
		{"fn f(m: &mut box) { *m = 6; } fn main() { let a = new 5; do f(&mut a); print *a; }", nil, 10, "6 done"},
		{"fn f(m: &mut box) { *m = *m + 1; } fn g(m: &mut box) { do f(m); } fn main() { let a = new 5; do g(&mut a); do g(&mut a); print *a; }", nil, 25, "7 done"},
		{"fn f(m: &mut box, n: int) -> int { *m = n; ret n; } fn main() { let a = new 5; print f(&mut a, 6) + *a; }", nil, 12, "12 done"},
		// Boxes that are given away, and come back.
		{"fn f(b: box) { print *b; } fn main() { let a = new 5; do f(a); }", nil, 8, "5 done"},
		{"fn f(b: box) { } fn main() { let a = new 5; do f(clone a); print *a; }", nil, 8, "5 done"},
		{"fn f(b: box) -> int { *b = *b + 1; ret *b; } fn main() { let a = new 5; print f(clone a); print *a; }", nil, 13, "6 5 done"},
		{"fn f(b: box) -> box { ret b; } fn main() { let a = new 5; let c = f(a); print *c; }", nil, 9, "5 done"},
		{"fn f(b: box) -> box { *b = 6; ret b; } fn main() { let a = new 5; a = f(a); print *a; }", nil, 11, "6 done"},
		{"fn f(a: box, b: box) -> box { ret a; } fn main() { let x = f(new 5, new 6); print *x; }", nil, 9, "5 done"},
		{"fn f(a: box, b: box) -> box { ret b; } fn main() { let x = f(new 5, new 6); print *x; }", nil, 9, "6 done"},
		{"fn f() -> box { let a = new 5; let b = new 6; ret a; } fn main() { let x = f(); let y = f(); *x = 7; print *x; print *y; }", nil, 24, "7 5 done"},
		{"fn f() -> box { let a = new 5; ret clone a; } fn main() { let x = f(); print *x; }", nil, 8, "5 done"},
		{"fn f(r: &box) -> box { ret clone r; } fn main() { let a = new 5; let x = f(&a); *x = 6; print *a; print *x; }", nil, 13, "5 6 done"},
		{"fn f() -> box { ret new 3; } fn main() { do f(); print 4; }", nil, 6, "4 done"},
		{"fn f() -> box { print 1; ret new input; } fn main() { do f(); do f(); }", []int{0}, 12, "1 1 input"},
		{"fn g() -> box { ret new 3; } fn f() -> box { ret g(); } fn main() { let a = f(); print *a; }", nil, 7, "3 done"},
		{"fn g(b: box) -> box { ret b; } fn main() { let a = g(g(g(new 3))); print *a; }", nil, 11, "3 done"},
		// Functions that call one another.
		{"fn f(n: int) -> int { ret n + 1; } fn g(n: int) -> int { ret f(f(n)); } fn main() { print g(g(1)); }", nil, 22, "5 done"},
		{"fn f(n: int) { print n; } fn main() { let n = 0; while n < 2 { do f(n); n = n + 1; } }", nil, 30, "0 1 done"},
		{"fn f() -> int { ret input; } fn main() { while f() { print f(); } }", []int{1, 8, 1, 9, 0}, 13, "8 9 done"},
		{"fn f() -> int { ret input; } fn main() { if f() { print 1; } else { print 2; } }", nil, 3, "input"},
		{"fn f() { let a = new 1; let b = a; print *b; } fn main() { do f(); do f(); }", nil, 18, "1 1 done"},
		{"fn f() { while 1 { print 1; let a = new input; } } fn main() { do f(); }", []int{0, 0}, 21, "1 1 1 input"},
		// The last function may give something, which nobody takes.
		{"fn main() -> int { print 1; ret 2 + 3; }", nil, 5, "1 done"},
		{"fn main() -> int { print 1; ret input; }", nil, 3, "1 input"},
		{"fn main() -> box { let a = new 5; print *a; ret a; }", nil, 6, "5 done"},
		{"fn main() -> box { let a = new 5; let b = a; ret a; }", nil, 6, "moved"},
	} {
		r.holds(t)
	}
}

func TestRunOfWhatWasMoved(t *testing.T) {
	// Each use of a box that was given away.
	for use, need := range map[string]int{
		"let c = a;": 2, "let c = clone a;": 2, "let c = &a;": 2, "let c = &mut a;": 2, "print *a;": 2, "print 1 + *a;": 4, "*a = 1;": 2, "a = a;": 2, "a = clone a;": 2,
		"do f(a);": 3, "do f(clone a);": 3, "do g(&a);": 3, "do h(&mut a);": 3, "if *a { } else { }": 2, "while *a { }": 2, "let c = new *a;": 3, "*a = *b;": 2, "b = a;": 2,
	} {
		text := "fn f(b: box) { } fn g(b: &box) { } fn h(b: &mut box) { } fn main() { print 8; let a = new 5; let b = a; " + use + " print 9; }"
		run{text, nil, 7 + need, "8 moved"}.holds(t)
		// What has something again may be used.
		again := strings.Replace(text, "let b = a;", "let b = a; a = new 0;", 1)
		want := "8 9 done"
		if strings.HasPrefix(use, "print") {
			want = map[bool]string{true: "8 1 9 done", false: "8 0 9 done"}[strings.Contains(use, "+")]
		}
		runsTo(t, again, mustRead(t, again), nil, 100, want)
	}
	for _, r := range []run{
		// What is lent to one who writes is given away, too.
		{inMain("let a = new 5; let m = &mut a; let n = m; print *a; print *m;"), nil, 11, "5 moved"},
		{inMain("let a = new 5; let m = &mut a; let n = m; *m = 1;"), nil, 9, "moved"},
		{inMain("let a = new 5; let m = &mut a; let n = m; let k = m;"), nil, 9, "moved"},
		{inMain("let a = new 5; let m = &mut a; let n = m; let c = clone m;"), nil, 9, "moved"},
		{"fn f(m: &mut box) { } fn main() { let a = new 5; let m = &mut a; do f(m); print 1; do f(m); }", nil, 13, "1 moved"},
		// In a loop, once and twice; of what is let in it, in each round.
		{inMain("let a = new 5; while input { let b = a; print *b; }"), []int{0}, 5, "done"},
		{inMain("let a = new 5; while input { let b = a; print *b; }"), []int{1, 0}, 10, "5 done"},
		{inMain("let a = new 5; while input { let b = a; print *b; }"), []int{1, 1, 0}, 12, "5 moved"},
		{inMain("let a = new 5; while input { let b = a; a = b; } print *a;"), []int{1, 1, 1, 0}, 22, "5 done"},
		{inMain("while input { let a = new 5; let b = a; print *b; }"), []int{1, 1, 0}, 18, "5 5 done"},
		{inMain("while input { let a = new 5; let b = a; print *a; }"), []int{1, 1, 0}, 9, "moved"},
		{"fn f(b: box) -> int { ret *b; } fn main() { let a = new 1; while f(a) { print 7; } }", nil, 11, "7 moved"},
		{"fn f(b: box) -> int { ret *b; } fn main() { let a = new 0; while f(a) { print 7; } print 8; }", nil, 9, "8 done"},
		// In one of the blocks of an if.
		{inMain("let a = new 5; if input { let b = a; } else { } print *a;"), []int{0}, 7, "5 done"},
		{inMain("let a = new 5; if input { let b = a; } else { } print *a;"), []int{1}, 9, "moved"},
		{inMain("let a = new 5; if input { } else { let b = a; } print *a;"), []int{0}, 9, "moved"},
		{inMain("let a = new 5; if input { } else { let b = a; } print *a;"), []int{1}, 7, "5 done"},
		{inMain("let a = new 5; if 1 { let b = a; a = b; } else { } print *a;"), nil, 11, "5 done"},
		// As a Param, and ahead of one.
		{"fn f(b: box) { } fn main() { let a = new 5; do f(a); print *a; }", nil, 8, "moved"},
		{"fn f(b: box, c: box) { } fn main() { let a = new 5; do f(a, a); }", nil, 7, "moved"},
		{"fn f(b: box, c: &box) { } fn main() { let a = new 5; do f(a, &a); }", nil, 7, "moved"},
		{"fn f(b: box, c: int) { } fn main() { let a = new 5; do f(a, *a); }", nil, 7, "moved"},
		{"fn f(c: int, b: box) { print c; print *b; } fn main() { let a = new 5; do f(*a, a); }", nil, 11, "5 5 done"},
		{"fn f(b: box) { let c = b; print *b; } fn main() { do f(new 5); }", nil, 8, "moved"},
		{"fn f(b: box) -> int { ret 3; } fn main() { let a = new 5; *a = f(a); }", nil, 7, "moved"},
		{"fn f(b: box) -> int { ret 3; } fn main() { let a = new 5; print f(a) + *a; }", nil, 9, "moved"},
		{"fn f(b: box) -> int { ret 3; } fn main() { let a = new 5; print *a + f(a); }", nil, 9, "8 done"},
		{"fn f(b: box) -> int { let c = b; ret *b; } fn main() { print f(new 5); }", nil, 7, "moved"},
	} {
		r.holds(t)
	}
}

func TestRunOfWhatIsGone(t *testing.T) {
	// Each use of what is lent of a box that was given away, set or ended.
	for end, need := range map[string]int{"let b = a;": 2, "a = new 6;": 3, "a = clone a;": 2, "a = a;": 2, "a = clone r;": 2, "do f(a);": 3, "let b = g(a);": 4, "if 1 { let b = a; } else { }": 4} {
		for use, more := range map[string]int{"print *r;": 2, "let c = clone r;": 2, "let s = r; print *s;": 4, "do h(r);": 5, "*m = 1;": 2, "print *m;": 2, "let n = m; *n = 1;": 4, "let c = clone m;": 2} {
			text := "fn f(b: box) { } fn g(b: box) -> box { ret b; } fn h(r: &box) { print *r; } fn main() { print 8; let a = new 5; let r = &a; let m = &mut a; " + end + " " + use + " print 9; }"
			run{text, nil, 9 + need + more, "8 gone"}.holds(t)
		}
	}
	for _, r := range []run{
		// What is lent may be had as long as it is not looked at.
		{inMain("let a = new 5; let r = &a; let b = a; let s = r; print *b;"), nil, 11, "5 done"},
		{inMain("let a = new 5; let r = &a; a = clone r; print *a; print *r;"), nil, 11, "5 gone"},
		{"fn f(r: &box, b: box) -> int { ret *b; } fn main() { let a = new 5; print f(&a, a); }", nil, 8, "5 done"},
		{"fn f(r: &box, b: box) -> int { ret *r; } fn main() { let a = new 5; print f(&a, a); }", nil, 8, "gone"},
		{"fn f(m: &mut box, b: box) { *m = 1; } fn main() { let a = new 5; do f(&mut a, a); }", nil, 9, "gone"},
		// The box that was set is another one, and what is lent of it later is there.
		{inMain("let a = new 5; let r = &a; a = new 6; let s = &a; print *s; print *r;"), nil, 14, "6 gone"},
		{inMain("let a = new 5; let m = &mut a; a = new 6; *m = 7;"), nil, 10, "gone"},
		{inMain("let a = new 5; let r = &a; let b = a; a = new 6; print *r;"), nil, 12, "gone"},
		// Who is lent something in a loop, while it is given away there.
		{inMain("let a = new 5; let r = &a; while input { print *r; a = clone a; }"), []int{1, 1, 0}, 14, "5 gone"},
		{inMain("let a = new 5; while input { let r = &a; print *r; a = clone a; } print *a;"), []int{1, 1, 0}, 21, "5 5 5 done"},
	} {
		r.holds(t)
	}
}

// What ends frees what is its own alone: not what it was lent, what was given on, or what is of a block around.
func TestRunFreesItsOwn(t *testing.T) {
	for _, r := range []run{
		{inMain("let a = new 5; if 1 { let r = &a; print *r; } else { } print *a;"), nil, 11, "5 5 done"},
		{inMain("let a = new 5; if 1 { let m = &mut a; *m = 6; } else { } print *a;"), nil, 11, "6 done"},
		{inMain("let a = new 5; if 1 { let b = new 6; } else { let c = new 7; } print *a;"), nil, 10, "5 done"},
		{inMain("let a = new 5; if 1 { let b = a; a = b; } else { } let r = &a; print *r;"), nil, 13, "5 done"},
		{inMain("let a = new 5; while input { let b = new 1; let c = new 2; let r = &b; print *r + *c; } print *a;"), []int{1, 1, 0}, 33, "3 3 5 done"},
		{inMain("let n = 0; while n < 3 { let b = new n; print *b; n = *b + 1; }"), nil, 42, "0 1 2 done"},
		{inMain("while input { let a = new input; if *a { let b = a; print *b; } else { let c = clone a; *c = 9; print *c; print *a; } }"), []int{1, 4, 1, 0, 0}, 26, "4 9 0 done"},
		{inMain("let n = 5; if 1 { let b = n; let c = new b; } else { } print n;"), nil, 11, "5 done"},
		// The blocks stand in one another, each with a box that is used behind the inner one's end.
		{inMain("let a = new 1; if 1 { let b = new 2; if 1 { let c = new 3; print *a + *b + *c; } else { } print *b; } else { } print *a;"), nil, 23, "6 2 1 done"},
		// A function ends while others go on.
		{"fn f(r: &box, n: int) { let a = new n; let b = a; print *r + *b; } fn main() { let a = new 5; do f(&a, 1); do f(&a, 2); print *a; }", nil, 31, "6 7 5 done"},
		{"fn f(m: &mut box) { let n = m; *n = *n + 1; } fn main() { let a = new 5; while *a < 7 { do f(&mut a); } print *a; }", nil, 33, "7 done"},
		{"fn f(r: &box) -> box { let s = r; let b = clone s; ret b; } fn main() { let a = new 5; let b = f(&a); print *a + *b; }", nil, 15, "10 done"},
		{"fn f(a: box, b: box, c: box) -> box { let d = b; ret d; } fn main() { let x = new 1; let y = f(new 2, x, new 3); print *y; }", nil, 15, "1 done"},
		// The new boxes of another call are not those that ended ahead of it.
		{"fn f() -> box { let a = new 5; let b = new 6; ret b; } fn main() { let x = f(); let y = f(); *y = 7; print *x; print *y; }", nil, 24, "6 7 done"},
	} {
		r.holds(t)
	}
}

func TestRunFuelByFuel(t *testing.T) {
	p := mustRead(t, inMain("let n = 0; while n < 2 { print n; n = n + 1; } print 9;"))
	for fuel := -5; fuel <= 40; fuel++ {
		want := "fuel"
		switch {
		case fuel >= 26:
			want = "0 1 9 done"
		case fuel >= 17:
			want = "0 1 fuel"
		case fuel >= 8:
			want = "0 fuel"
		}
		runsTo(t, "a loop", p, nil, fuel, want)
	}
	// 1 do, 2 f, 3 new, 4 its number, 5 print, 6 + .. 8, 9 store, 10 its number, 11 Ret, 12 print, 13 its number.
	p = mustRead(t, "fn f(b: box) -> box { print *b + 1; *b = 7; ret b; } fn main() { do f(new 5); print 3; }")
	for fuel := -5; fuel <= 20; fuel++ {
		want := "fuel"
		switch {
		case fuel >= 13:
			want = "6 3 done"
		case fuel >= 8:
			want = "6 fuel"
		}
		runsTo(t, "a call", p, nil, fuel, want)
	}
}

func TestRunOfWhatGoesWrongFirst(t *testing.T) {
	// Where fuel is gone in the same moment, that is what went wrong; else what comes first.
	for _, r := range []run{
		{inMain("print input + (1000000000 + 1);"), nil, 3, "input"},
		{inMain("print (1000000000 + 1) + input;"), nil, 5, "over"},
		{"fn f(a: int, b: int) { } fn main() { do f(input, 1000000000 + 1); }", nil, 3, "input"},
		{"fn f(a: int, b: box) { } fn main() { let a = new 1; let b = a; do f(1000000000 + 1, a); }", nil, 10, "over"},
		{"fn f(a: box, b: int) { } fn main() { let a = new 1; let b = a; do f(a, 1000000000 + 1); }", nil, 8, "moved"},
		{inMain("let a = new 1; let b = a; *a = input;"), nil, 7, "input"},
		{inMain("let a = new 1; let r = &a; let b = a; print *r + input;"), nil, 10, "gone"},
		{inMain("let a = new 1; let r = &a; let b = a; print input + *r;"), nil, 10, "input"},
		{inMain("let a = new 1; let b = a; if *a { print 1; } else { print 2; } print 3;"), nil, 7, "moved"},
		{inMain("while input { print 1; } print 2;"), []int{1, 1}, 8, "1 1 input"},
	} {
		r.holds(t)
	}
}

func TestRunByFuel(t *testing.T) {
	below := []int{0, -1, -2, -impl.MaxFuel, math.MinInt}
	above := []int{impl.MaxFuel, impl.MaxFuel + 1, impl.MaxFuel + 2, 2 * impl.MaxFuel, math.MaxInt32, math.MaxInt}
	// Nothing is spent on a call that nobody wrote.
	for _, fuel := range slices.Concat(below, []int{1, 2, 77}, above) {
		runsTo(t, "nothing", mustRead(t, inMain("")), nil, fuel, "done")
	}
	one := mustRead(t, "fn main() -> int { ret 4; }")
	for _, fuel := range below {
		runsTo(t, "a Ret", one, nil, fuel, "fuel")
	}
	for _, fuel := range append(above, 1, 2) {
		runsTo(t, "a Ret", one, nil, fuel, "done")
	}
	// One for the loop, and three for each round.
	endless := mustRead(t, inMain("while 1 { print 7; }"))
	for fuel := range 40 {
		runsTo(t, "an endless loop", endless, nil, fuel, strings.Repeat("7 ", max(fuel-1, 0)/3)+"fuel")
	}
	for _, fuel := range above {
		e := impl.RunTree(endless, nil, fuel)
		if e.End != impl.OutFuel || len(e.Out) != 33333 || slices.ContainsFunc(e.Out, func(n int) bool { return n != 7 }) {
			t.Errorf("an endless loop tells %d numbers with a fuel of %d, and ends with %d", len(e.Out), fuel, e.End)
		}
	}
	for _, text := range []string{"while 1 { }", "while 1 { while 1 { } }", "while input { }", "while 1 { while 0 { } }", "while 1 { if 1 { } else { } }", "while 1 { let a = new 1; let b = a; a = b; }"} {
		p := mustRead(t, inMain(text))
		for _, fuel := range slices.Concat(below, []int{1, 2, 77, 1000}, above) {
			runsTo(t, text, p, slices.Repeat([]int{1}, impl.MaxFuel+5), fuel, "fuel")
		}
	}
}

// What needs MaxFuel, and one less, ends; what needs one more never does, whatever it is given.
func TestRunAtMaxFuel(t *testing.T) {
	p := mustRead(t, inMain("while input { }"))
	for more := -2; more <= 2; more++ {
		// One for the loop, one for each number, the last of which is 0.
		input := append(slices.Repeat([]int{-1}, impl.MaxFuel+more-2), 0)
		want := "done"
		if more > 0 {
			want = "fuel"
		}
		for _, fuel := range []int{impl.MaxFuel + more, impl.MaxFuel + 2, 3 * impl.MaxFuel, math.MaxInt} {
			runsTo(t, "a loop", p, input, fuel, want)
		}
		if more <= 0 {
			runsTo(t, "a loop", p, input, impl.MaxFuel, "done")
			runsTo(t, "a loop", p, input, impl.MaxFuel+more-1, "fuel")
		}
	}
	if impl.MaxFuel != 100000 {
		t.Errorf("MaxFuel is %d", impl.MaxFuel)
	}
}

// Many boxes, much that is told and many calls take no longer than their fuel.
func TestRunOfLongRuns(t *testing.T) {
	for _, text := range []string{
		inMain("let a = new 0; while 1 { let b = a; a = b; print *a; }"),
		inMain("let a = new 0; while 1 { a = clone a; *a = *a + 1; print *a; }"),
		"fn f(b: box) -> box { ret b; } fn main() { let a = new 0; while 1 { a = f(a); } }",
		"fn f() -> box { ret new 1; } fn main() { while 1 { do f(); let a = f(); let b = new *a; } }",
	} {
		p := mustRead(t, text)
		if e := impl.RunTree(p, nil, impl.MaxFuel); e.End != impl.OutFuel {
			t.Errorf("RunTree ends with %d: %s", e.End, text)
		}
	}
	// Eight functions, each of which calls the one ahead twelve times; the first one tells something.
	text := "fn f0() { print 1; } "
	for k := 1; k < 8; k++ {
		text += "fn f" + strconv.Itoa(k) + "() { " + strings.Repeat("do f"+strconv.Itoa(k-1)+"(); ", 12) + "} "
	}
	p := mustRead(t, text)
	e := impl.RunTree(p, nil, math.MaxInt)
	// A call of f1 takes 48, of f2 600, and so on, each twelve times the one ahead and 24.
	if told := toldByCalls(7, impl.MaxFuel); e.End != impl.OutFuel || len(e.Out) != told {
		t.Errorf("%d numbers told, and an end with %d; want %d", len(e.Out), e.End, told)
	}
}

// toldByCalls tells how often the first function of the twelves tells something, when the one at this place is called with so much fuel.
func toldByCalls(at, fuel int) int {
	needs := []int{2}
	tells := []int{1}
	for k := range at {
		needs = append(needs, 12*needs[k]+24)
		tells = append(tells, 12*tells[k])
	}
	told := 0
	for ; at > 0; at-- {
		for fuel >= 2+needs[at-1] {
			fuel -= 2 + needs[at-1]
			told += tells[at-1]
		}
		// One for the do, one for the call, and into it.
		fuel -= 2
		if fuel < 0 {
			return told
		}
	}
	return told
}

func TestRunOfWrongPrograms(t *testing.T) {
	for _, text := range []string{
		// The last function has Params.
		"fn f(a: int) { print 1; }", "fn main() { print 1; } fn f(b: &box) { print 2; }", "fn main() { print 1; } fn f(a: int, b: int, c: int) { }",
		// Recursion, and calls of what does not stand ahead.
		"fn f() { print 1; do f(); }", "fn f() -> int { ret f(); }", "fn main() { print 1; do f(); } fn f() { }", "fn f() { do g(); } fn g() { do f(); }", "fn f(n: int) -> int { if n { n = f(n); } else { } ret n; } fn main() { print f(3); }",
		// Calls of nobody, and with too many or too few.
		"fn main() { print 1; do f(); }", "fn f(a: int) { } fn main() { print 1; do f(); }", "fn f() { } fn main() { print 1; do f(1); }",
		// Names that are not there, not any more, or twice.
		"fn main() { print 1; print a; }", "fn main() { if 1 { let a = 1; } else { } print a; }", "fn main() { let a = 1; let a = 2; }", "fn f(a: int, a: int) { } fn main() { print 1; }",
		// Types, also in what nobody comes to.
		"fn main() { print 1; print new 2; }", "fn main() { let a = 1; print *a; }", "fn main() { let a = new 1; a = 2; }", "fn main() { let a = new 1; let r = &a; *r = 2; }", "fn main() { if 0 { print new 2; } else { } }", "fn main() { while 0 { let a = 1; *a = 2; } }", "fn f() -> box { ret 1; } fn main() { print 1; }", "fn f() { } fn main() { print f(); }", "fn f(b: box) { } fn main() { let a = new 1; do f(&a); }",
		"fn f() { print a; } fn main() { print 1; }", "fn main() -> int { ret new 1; }",
	} {
		p := mustRead(t, text)
		for _, fuel := range []int{0, -1, 1, 2, 100, impl.MaxFuel, math.MaxInt, math.MinInt} {
			for _, input := range [][]int{nil, {1, 2, 3}, {-1}} {
				runsTo(t, text, p, input, fuel, "moved")
			}
		}
	}
}

func TestRunOfWhatIsNoProgram(t *testing.T) {
	right := mustRead(t, rightText)
	for what, p := range map[string]impl.Program{
		"nothing":                  {},
		"no functions":             {Nodes: right.Nodes},
		"an empty list of them":    {Nodes: right.Nodes, Fns: []impl.Fn{}},
		"no nodes":                 {Fns: right.Fns},
		"every Kind":               everyKind(),
		"functions alone":          {Fns: make([]impl.Fn, 3)},
		"many functions":           {Nodes: right.Nodes, Fns: slices.Repeat(right.Fns, 3)},
		"nodes of no Kind":         {Nodes: make([]impl.Node, 5), Fns: []impl.Fn{{Name: "f", Ret: -1}}},
		"a node that is its own":   {Nodes: []impl.Node{node(impl.NdBlock, 0)}, Fns: []impl.Fn{{Name: "f", Ret: -1}}},
		"a ring":                   {Nodes: []impl.Node{node(impl.NdBlock, 1), node(impl.NdWhile, 2, 0), numNode(1)}, Fns: []impl.Fn{{Name: "f", Ret: -1}}},
		"a Body that is no block":  {Nodes: []impl.Node{numNode(1)}, Fns: []impl.Fn{{Name: "f", Ret: -1}}},
		"Bodies that are the same": {Nodes: []impl.Node{node(impl.NdBlock)}, Fns: []impl.Fn{{Name: "f", Ret: -1}, {Name: "g", Ret: -1}}},
		"a node that is nobody's":  {Nodes: []impl.Node{node(impl.NdBlock), numNode(1)}, Fns: []impl.Fn{{Name: "f", Ret: -1}}},
		"places far away":          {Nodes: []impl.Node{node(impl.NdBlock, math.MaxInt), node(impl.NdBlock, math.MinInt)}, Fns: []impl.Fn{{Name: "f", Body: math.MaxInt, Ret: math.MinInt}}},
		"301 nodes":                programOf300(1),
	} {
		for _, fuel := range []int{0, 1, 100, math.MaxInt, math.MinInt} {
			runsTo(t, what, p, []int{1}, fuel, "moved")
		}
	}
	// What is at the limit, and right, runs.
	runsTo(t, "300 nodes", programOf300(0), nil, 0, "fuel")
	runsTo(t, "300 nodes", programOf300(0), nil, 24, "5 done")
	runsTo(t, "300 nodes", programOf300(0), nil, 23, "fuel")
}

func TestRunAtTheLimits(t *testing.T) {
	// As deep as may be: 7 pairs below a print in the Body, and calls in calls.
	deep := "1"
	for range 7 {
		deep = "1 + (" + deep + ")"
	}
	run{inMain("print " + deep + ";"), nil, 16, "8 done"}.holds(t)
	called := "0"
	for range 7 {
		called = "f(" + called + ", 1, input)"
	}
	run{"fn f(a: int, b: int, c: int) -> int { print c; ret a + b; } fn main() { print " + called + "; }", []int{1, 2, 3, 4, 5, 6, 7}, 58, "1 2 3 4 5 6 7 7 done"}.holds(t)
	loops := "print n;"
	for range 3 {
		loops = "while n < 1 { " + loops + " n = n + 1; }"
	}
	run{inMain("let n = 0; " + loops + " if 1 { if 1 { if 1 { print n; } else { } } else { } } else { }"), nil, 45, "0 3 done"}.holds(t)
	// Twelve statements in each of the blocks, and twelve boxes.
	lets, sum := "", "0"
	for k := range 11 {
		lets += "let a" + strconv.Itoa(k) + " = new " + strconv.Itoa(k) + "; "
	}
	for k := range 6 {
		sum = "*a" + strconv.Itoa(k) + " + (" + sum + ")"
	}
	run{inMain(lets + "print " + sum + ";"), nil, 47, "15 done"}.holds(t)
	// Eight functions, each of which hands on to the one ahead.
	text := "fn f0(b: box, r: &box, m: &mut box) -> box { *m = *b + *r; ret b; } "
	for k := 1; k < 7; k++ {
		text += "fn f" + strconv.Itoa(k) + "(b: box, r: &box, m: &mut box) -> box { ret f" + strconv.Itoa(k-1) + "(b, r, m); } "
	}
	run{text + "fn main() { let r = new 2; let m = new 0; let b = f6(new 1, &r, &mut m); print *b; print *r; print *m; }", nil, 47, "1 2 3 done"}.holds(t)
}

// With one thing changed a program is not right, or does what the walk does.
func TestRunOfChangedPrograms(t *testing.T) {
	ends := map[string]int{}
	see := func(what string, p impl.Program) {
		for _, fuel := range []int{3, 60} {
			want := endingByRule(p, []int{4, 1, 0}, fuel)
			got := impl.RunTree(p, []int{4, 1, 0}, fuel)
			if !sameEnding(got, want) {
				t.Fatalf("RunTree is %s; want %s: %s", endingTold(got), endingTold(want), what)
			}
			ends[endWords()[got.End]]++
		}
	}
	changesOf(mustRead(t, rightText), see)
	changesOf(mustRead(t, "fn f(n: int, b: &box) -> int { let a = *b + n; ret a; } fn main() { let a = new input; while *a < 6 { let b = a; print f(1, &b); a = new f(2, &b); } }"), see)
	if ends["done"] < 20 || ends["fuel"] < 100 || ends["moved"] < 1000 || len(ends) < 4 {
		t.Errorf("the ends are %v: the test tells little", ends)
	}
}

// Each value of a right program becomes each other use of each name.
func TestRunWithOtherUses(t *testing.T) {
	ends := map[string]int{}
	for _, text := range []string{rightText, typedText, "fn f(b: box) -> box { ret b; } fn main() { let a = new 1; let r = &a; let m = &mut a; let b = f(clone r); *m = *b + 1; print *a; a = f(b); print *a; }"} {
		base := mustRead(t, text)
		for k, n := range base.Nodes {
			if n.Kind > impl.NdInput {
				continue
			}
			for kind := range usesByType() {
				for _, name := range []string{"a", "b", "c", "m", "n", "r", "x", "y", "z"} {
					p := cloneProgram(base)
					p.Nodes[k] = namedNode(kind, name)
					for _, fuel := range []int{15, 80} {
						want := endingByRule(p, []int{4, 1, 0}, fuel)
						got := impl.RunTree(p, []int{4, 1, 0}, fuel)
						if !sameEnding(got, want) {
							t.Fatalf("RunTree is %s; want %s: %s", endingTold(got), endingTold(want), programTold(p))
						}
						if impl.TypesRight(p) {
							ends[endWords()[got.End]]++
						}
					}
				}
			}
		}
	}
	if ends["done"] < 20 || ends["fuel"] < 100 || ends["moved"] < 5 || ends["gone"] < 5 {
		t.Errorf("the ends are %v: the test tells little", ends)
	}
}

// Each row of three statements over two boxes, of which one is lent to one who looks, the other one to one who writes.
func TestRunOfEachShortRow(t *testing.T) {
	steps := []string{
		"print *a;", "print *b;", "print *r;", "print *m;", "*a = 7;", "*m = *r + 3;", "a = b;", "b = a;", "a = a;", "a = clone r;", "b = clone m;", "do f(a);", "b = g(b);", "print h(&a, b);",
		"if input { a = b; } else { b = a; }", "while input { b = a; a = b; }",
	}
	ends := map[string]int{}
	for _, first := range steps {
		for _, second := range steps {
			for _, third := range steps {
				p := mustRead(t, "fn f(x: box) { } fn g(x: box) -> box { let y = x; ret y; } fn h(x: &box, y: box) -> int { ret *x + *y; } fn main() { let a = new 1; let b = new 2; let r = &a; let m = &mut b; "+first+" "+second+" "+third+" }")
				w := walkOf(p)
				for _, input := range [][]int{{1, 0, 5, 0}, {0, 1}} {
					want, need := w.ends(input, 1000)
					got := impl.RunTree(p, input, need)
					if !sameEnding(got, want) {
						t.Fatalf("RunTree with %v and a fuel of %d is %s; want %s: %s %s %s", input, need, endingTold(got), endingTold(want), first, second, third)
					}
					ends[endWords()[got.End]]++
				}
			}
		}
	}
	if ends["done"] < 1000 || ends["moved"] < 1000 || ends["gone"] < 1000 || ends["input"] < 10 || ends["fuel"] > 0 {
		t.Errorf("the ends are %v: the test tells little", ends)
	}
}

func TestRunWithNodesElsewhere(t *testing.T) {
	d := dice(61)
	same := 0
	for _, text := range []string{typedText, rightText, "fn f(n: int) -> int { print n; ret n + 1; } fn main() { print f(1) + f(2); if input { print 3; } else { print 4; } while input { print 5; } }"} {
		p := mustRead(t, text)
		for range 60 {
			q := onlyReached(elsewhere(&d, p))
			for _, fuel := range []int{7, 20, 400} {
				want := endingByRule(q, []int{3, 9, 1, 0}, fuel)
				got := impl.RunTree(q, []int{3, 9, 1, 0}, fuel)
				if !sameEnding(got, want) {
					t.Fatalf("RunTree is %s; want %s: %s", endingTold(got), endingTold(want), programTold(q))
				}
				// Where a let's value is not typed ahead of it, it is no right program any more.
				if impl.TypesRight(q) {
					runsTo(t, text, p, []int{3, 9, 1, 0}, fuel, endingTold(got))
					same++
				}
			}
		}
	}
	if same < 200 {
		t.Errorf("%d right ones: the test tells little", same)
	}
}

// someInput makes numbers that a program may ask for.
func someInput(d *dice) []int {
	var input []int
	for range d.below(12) {
		input = append(input, d.below(4))
	}
	if d.below(8) == 0 {
		input = append(input, memoryNumbers()[d.below(len(memoryNumbers()))])
	}
	return input
}

// runsAsWalked holds a program that may be run against the walk with some fuels up to what it needs, and with the most; and gives how it ends with that.
func runsAsWalked(t *testing.T, what string, p impl.Program, input []int, most int) impl.Ending {
	t.Helper()
	w := walkOf(p)
	full, need := w.ends(input, most)
	fuels := []int{0, 1, need - 1, need, most}
	for fuel := 2; fuel < need; fuel += 1 + need/8 {
		fuels = append(fuels, fuel)
	}
	for _, fuel := range fuels {
		want, _ := w.ends(input, fuel)
		got := impl.RunTree(p, input, fuel)
		if !sameEnding(got, want) {
			t.Fatalf("RunTree with %v and a fuel of %d is %s; want %s: %s", input, fuel, endingTold(got), endingTold(want), what)
		}
		// With less fuel it does the same as far as it comes.
		if fuel < need && (got.End != impl.OutFuel || !slices.Equal(got.Out, full.Out[:min(len(got.Out), len(full.Out))])) {
			t.Fatalf("RunTree with %v and a fuel of %d, where %d are needed, is %s; with more %s: %s", input, fuel, need, endingTold(got), endingTold(full), what)
		}
	}
	return full
}

func TestRunOfAnyPrograms(t *testing.T) {
	ends, longest := map[string]int{}, 0
	for start := range 1500 {
		m := typist{dice: dice(start), wrong: []int{1000000, 1000000, 60}[start%3]}
		p := m.program()
		if len(p.Nodes) > 150 {
			continue
		}
		what, input := "start "+strconv.Itoa(start), someInput(&m.dice)
		if !mayRun(p) {
			for _, fuel := range []int{0, 1, 300} {
				runsTo(t, what, p, input, fuel, "moved")
			}
			ends["wrong"]++
			continue
		}
		e := runsAsWalked(t, what, p, input, 300)
		ends[endWords()[e.End]]++
		longest = max(longest, len(e.Out))
	}
	for end, least := range map[string]int{"done": 100, "fuel": 20, "input": 30, "moved": 30, "wrong": 200} {
		if ends[end] < least {
			t.Errorf("the ends are %v: the test tells little", ends)
		}
	}
	if longest < 10 {
		t.Errorf("no run tells more than %d numbers", longest)
	}
}

// What an owner knows of a var in sight: its type, whether it has something still, and, of what is lent, of which box.
type owned struct {
	name string
	ty   int
	has  bool
	of   string
}

// An owner makes up programs that anybody who looks them over may let run: nothing is used behind where it was given away, nothing is given away, set or written while a var in sight may look at it, and nothing of a block around a loop is given away in it. Each function has two boxes of its own, look and hand, which stay and are lent to what is called alone.
type owner struct {
	planter
	dice
	fns   []impl.Fn
	vars  []owned
	begun int
	// Vars ahead of this place are of blocks around a loop.
	inner int
	// lent is what is lent to calls that are not made up to their end.
	lent []owned
	// slip is how seldom a rule is passed over (0: never), slips how often it was.
	slip, slips int
}

// mayTake tells whether a var may be used in this way; a slip lets any one.
func (m *owner) mayTake(kind, at int) bool {
	v := m.vars[at]
	looked, written := m.isLent(v.name)
	ok := v.has
	switch kind {
	case impl.NdVar:
		ok = ok && (impl.CopyType(v.ty) || at >= m.inner && !looked && v.name != "look" && v.name != "hand")
	case impl.NdRead, impl.NdClone:
		ok = ok && !written
	case impl.NdLend:
		ok = ok && !written && v.name != "hand"
	case impl.NdMut:
		ok = ok && !looked && v.name != "look"
	case impl.NdStore:
		ok = ok && !looked
	case impl.NdSet:
		ok = !looked && v.name != "look" && v.name != "hand"
	}
	if !ok && m.slip > 0 && m.below(m.slip) == 0 {
		m.slips++
		return true
	}
	return ok
}

// isLent tells whether a box is lent to somebody, and to one who writes.
func (m *owner) isLent(name string) (looked, written bool) {
	for _, v := range append(slices.Clone(m.vars), m.lent...) {
		if v.has && v.of == name && name != "" {
			looked, written = true, written || v.ty == impl.TyMut
		}
	}
	return looked, written
}

// pick gives the place of a var of one of the types that may be used so; -1 without one.
func (m *owner) pick(kind int, types ...int) int {
	var places []int
	for at, v := range m.vars {
		if slices.Contains(types, v.ty) && m.mayTake(kind, at) {
			places = append(places, at)
		}
	}
	if len(places) == 0 {
		return -1
	}
	return places[m.below(len(places))]
}

// pickOr is pick, or the place of a box of the function's own, which lacks only behind a slip.
func (m *owner) pickOr(name string, kind int, types ...int) int {
	if at := m.pick(kind, types...); at >= 0 {
		return at
	}
	return slices.IndexFunc(m.vars, func(v owned) bool { return v.name == name })
}

// use makes a node that uses a var, and tells of which box what comes is lent.
func (m *owner) use(kind, at int) (int, string) {
	v := &m.vars[at]
	of := v.of
	if kind == impl.NdLend || kind == impl.NdMut {
		of = v.name
	}
	if kind == impl.NdVar && !impl.CopyType(v.ty) {
		v.has = false
	}
	return m.put(namedNode(kind, v.name)), of
}

func (m *owner) begin(ty int, of string) string {
	name := "v" + strconv.Itoa(m.begun)
	m.begun++
	m.vars = append(m.vars, owned{name, ty, true, of})
	return name
}

// value makes a value of the type, and tells of which box it is lent.
func (m *owner) value(ty, deep int) (int, string) {
	if deep > 1 && ty <= impl.TyBox && m.below(4) == 0 {
		if at := m.called(ty, deep); at >= 0 {
			return at, ""
		}
	}
	if at := m.pick(impl.NdVar, ty); at >= 0 && m.below(2) == 0 {
		return m.use(impl.NdVar, at)
	}
	switch ty {
	case impl.TyRef:
		return m.use(impl.NdLend, m.pickOr("look", impl.NdLend, impl.TyBox))
	case impl.TyMut:
		return m.use(impl.NdMut, m.pickOr("hand", impl.NdMut, impl.TyBox))
	case impl.TyBox:
		if deep < 2 || m.below(2) == 0 {
			return m.use(impl.NdClone, m.pickOr("look", impl.NdClone, impl.TyBox, impl.TyRef, impl.TyMut))
		}
		return m.put(node(impl.NdNew, m.number(deep-1))), ""
	}
	return m.number(deep), ""
}

func (m *owner) number(deep int) int {
	switch pick := m.below(7); {
	case pick < 3 && deep > 1:
		left, _ := m.value(impl.TyInt, deep-1)
		right, _ := m.value(impl.TyInt, deep-1)
		return m.put(node(impl.NdAdd+pick, left, right))
	case pick < 5:
		at, _ := m.use(impl.NdRead, m.pickOr("look", impl.NdRead, impl.TyBox, impl.TyRef, impl.TyMut))
		return at
	case pick == 5:
		return m.put(node(impl.NdInput))
	}
	return m.num(m.below(3))
}

// called makes a call of a function of this Res, or of any one with a ty below 0; -1 without one. Who writes needs hand, if nothing else.
func (m *owner) called(ty, deep int) int {
	var fns []impl.Fn
	handed, _ := m.isLent("hand")
	for _, fn := range m.fns {
		writes := slices.ContainsFunc(fn.Params, func(p impl.Param) bool { return p.Type == impl.TyMut })
		if (ty < 0 || fn.Res == ty) && !(writes && handed) {
			fns = append(fns, fn)
		}
	}
	if len(fns) == 0 {
		return -1
	}
	fn := fns[m.below(len(fns))]
	ahead := len(m.lent)
	var kids []int
	for _, param := range fn.Params {
		kid, of := m.value(param.Type, deep-1)
		kids = append(kids, kid)
		m.lent = append(m.lent, owned{"", param.Type, true, of})
	}
	m.lent = m.lent[:ahead]
	return m.put(namedNode(impl.NdCall, fn.Name, kids...))
}

// let makes a let of a var that is in sight behind it.
func (m *owner) let(ty, deep int) int {
	if ty == impl.TyMut && m.ownPick(impl.NdMut) < 0 || ty == impl.TyRef && m.ownPick(impl.NdLend) < 0 {
		ty = impl.TyInt
	}
	var at int
	var of string
	switch ty {
	case impl.TyMut:
		at, of = m.use(impl.NdMut, m.ownPick(impl.NdMut))
	case impl.TyRef:
		at, of = m.use(impl.NdLend, m.ownPick(impl.NdLend))
	default:
		at, of = m.value(ty, deep)
	}
	return m.put(namedNode(impl.NdLet, m.begin(ty, of), at))
}

// ownPick gives the last box but look and hand that may be lent so: these stay free for calls. -1 without one.
func (m *owner) ownPick(kind int) int {
	for at := len(m.vars) - 1; at >= 0; at-- {
		v := m.vars[at]
		looked, written := m.isLent(v.name)
		if v.ty == impl.TyBox && v.has && v.name != "look" && v.name != "hand" && !written && !(looked && kind == impl.NdMut) {
			return at
		}
	}
	return -1
}

// passed makes two statements: a box is given away, and given back.
func (m *owner) passed() []int {
	var places []int
	for at, v := range m.vars {
		if looked, _ := m.isLent(v.name); v.ty == impl.TyBox && v.has && !looked {
			places = append(places, at)
		}
	}
	if len(places) == 0 {
		return nil
	}
	name := m.vars[places[m.below(len(places))]].name
	there := m.put(namedNode(impl.NdVar, name))
	let := m.put(namedNode(impl.NdLet, m.begin(impl.TyBox, ""), there))
	m.vars[len(m.vars)-1].has = false
	back := m.put(namedNode(impl.NdVar, m.vars[len(m.vars)-1].name))
	return []int{let, m.put(namedNode(impl.NdSet, name, back))}
}

// step makes a statement, or two, that are so deep at most.
func (m *owner) step(deep int) []int {
	below := min(deep-1, 3)
	switch m.below(12) {
	case 0, 1, 2:
		return []int{m.let(1+m.below(4), below)}
	case 3, 4:
		ty := 1 + m.below(2)
		v, _ := m.value(ty, below)
		if at := m.pick(impl.NdSet, ty); at >= 0 {
			m.vars[at].has = true
			return []int{m.put(namedNode(impl.NdSet, m.vars[at].name, v))}
		}
		return []int{m.put(namedNode(impl.NdLet, m.begin(ty, ""), v))}
	case 5:
		v, _ := m.value(impl.TyInt, below)
		if at := m.pick(impl.NdStore, impl.TyBox, impl.TyMut); at >= 0 {
			return []int{m.put(namedNode(impl.NdStore, m.vars[at].name, v))}
		}
		return []int{m.put(node(impl.NdPrint, v))}
	case 6, 7:
		if deep > 3 {
			return []int{m.choice(deep)}
		}
	case 8:
		if deep > 3 {
			return []int{m.loop(deep)}
		}
	case 9:
		if at := m.called(-1, below); at >= 0 {
			return []int{m.put(node(impl.NdDo, at))}
		}
	case 10:
		if steps := m.passed(); steps != nil {
			return steps
		}
	}
	v, _ := m.value(impl.TyInt, below)
	return []int{m.put(node(impl.NdPrint, v))}
}

// choice: behind it a var has something when it has so behind both blocks.
func (m *owner) choice(deep int) int {
	asked, _ := m.value(impl.TyInt, 2)
	ahead := slices.Clone(m.vars)
	then := m.within(deep)
	behind := m.vars
	m.vars = ahead
	otherwise := m.within(deep)
	for at := range m.vars {
		m.vars[at].has = m.vars[at].has && behind[at].has
	}
	return m.put(node(impl.NdIf, asked, then, otherwise))
}

// loop: behind it a var has something when it had so ahead, since nothing is given away in it, and it may not be gone round.
func (m *owner) loop(deep int) int {
	ahead, inner := slices.Clone(m.vars), m.inner
	m.inner = len(m.vars)
	asked, _ := m.value(impl.TyInt, 2)
	block := m.within(deep)
	m.vars, m.inner = ahead, inner
	return m.put(node(impl.NdWhile, asked, block))
}

func (m *owner) within(deep int) int {
	count := len(m.vars)
	var steps []int
	for range m.below(4) {
		steps = append(steps, m.step(deep-2)...)
	}
	m.vars = m.vars[:count]
	return m.block(steps...)
}

func (m *owner) program() impl.Program {
	count := 1 + m.below(4)
	for k := range count {
		m.vars, m.begun = nil, 0
		fn := impl.Fn{Name: "f" + strconv.Itoa(k), Ret: -1}
		for at := range m.below(4) {
			// One who writes at most, and none of the last function's.
			ty := 1 + m.below(4)
			if ty == impl.TyMut && at > 0 {
				ty = impl.TyRef
			}
			if k < count-1 {
				fn.Params = append(fn.Params, impl.Param{Name: m.begin(ty, ""), Type: ty})
			}
		}
		var steps []int
		for _, name := range []string{"look", "hand"} {
			m.vars = append(m.vars, owned{name, impl.TyBox, true, ""})
			steps = append(steps, m.put(namedNode(impl.NdLet, name, m.put(node(impl.NdNew, m.num(m.below(3)))))))
		}
		for len(steps) < 4+m.below(5) {
			steps = append(steps, m.step(9)...)
		}
		fn.Body = m.block(steps...)
		if fn.Res = m.below(3); fn.Res != impl.TyNone {
			fn.Ret, _ = m.value(fn.Res, 3)
		}
		m.fns = append(m.fns, fn)
	}
	return impl.Program{Nodes: m.nodes, Fns: m.fns}
}

// TestRunOfWhatWasLookedOver: what is used is there, whatever is asked for and however long it goes on.
func TestRunOfWhatWasLookedOver(t *testing.T) {
	ends, kinds, longest := map[string]int{}, map[int]int{}, 0
	for start := range 1200 {
		m := owner{dice: dice(start)}
		p := m.program()
		if len(p.Nodes) > 150 {
			continue
		}
		if !impl.TypesRight(p) {
			t.Fatalf("start %d: TypesRight = false: %s", start, programTold(p))
		}
		for range 3 {
			input := someInput(&m.dice)
			for _, fuel := range []int{m.below(80), 2000} {
				e := impl.RunTree(p, input, fuel)
				if e.End == impl.OutMoved || e.End == impl.OutGone {
					text, _ := impl.ShowProgram(p)
					t.Fatalf("start %d: RunTree with %v and a fuel of %d is %s: %s", start, input, fuel, endingTold(e), text)
				}
				ends[endWords()[e.End]]++
				longest = max(longest, len(e.Out))
			}
		}
		for _, n := range p.Nodes {
			kinds[n.Kind]++
		}
		if start%10 == 0 {
			runsAsWalked(t, "start "+strconv.Itoa(start), p, someInput(&m.dice), 400)
		}
	}
	for kind := impl.NdNum; kind <= impl.NdBlock; kind++ {
		if kinds[kind] < 500 {
			t.Errorf("%d nodes of the Kind %d: the test tells little", kinds[kind], kind)
		}
	}
	if ends["done"] < 1000 || ends["fuel"] < 1000 || ends["input"] < 500 || longest < 100 {
		t.Errorf("the ends are %v, at most %d numbers are told: the test tells little", ends, longest)
	}
}

// What was not looked over ends so now and then, and in the same place as the walk.
func TestRunOfWhatWasNotLookedOver(t *testing.T) {
	ends := map[string]int{}
	for start := range 1500 {
		m := owner{dice: dice(start), slip: 2}
		p := m.program()
		if len(p.Nodes) > 120 || m.slips == 0 || !impl.TypesRight(p) {
			continue
		}
		e := runsAsWalked(t, "start "+strconv.Itoa(start), p, someInput(&m.dice), 300)
		ends[endWords()[e.End]]++
	}
	if ends["moved"] < 100 || ends["gone"] < 1 || ends["done"] < 100 {
		t.Errorf("the ends are %v: the test tells little", ends)
	}
}

func TestSameEnding(t *testing.T) {
	lists := [][]int{nil, {}, {0}, {1}, {1, 2}, {2, 1}, {1, 2, 3}, {1, 2, 0}, {0, 1, 2}, {1, 1}, {-1}, {math.MaxInt}, {math.MinInt}, {0, 0}}
	ends := []int{0, 1, 2, 3, 4, 5, 6, -1, 256, math.MaxInt, math.MinInt}
	for _, a := range lists {
		for _, b := range lists {
			same := len(a) == len(b)
			for k := 0; same && k < len(a); k++ {
				same = a[k] == b[k]
			}
			for _, end := range ends {
				for _, other := range ends {
					one, two := impl.Ending{Out: slices.Clone(a), End: end}, impl.Ending{Out: slices.Clone(b), End: other}
					if got := impl.SameEnding(one, two); got != (same && end == other) {
						t.Errorf("SameEnding(%v, %v) = %v", one, two, got)
					}
				}
			}
		}
	}
	if !impl.SameEnding(impl.Ending{}, impl.Ending{Out: []int{}}) || !impl.SameEnding(impl.Ending{Out: []int{}}, impl.Ending{}) {
		t.Error("SameEnding = false of a nil Out and an empty one")
	}
	// What stands in the room behind an Out is not of it.
	room := []int{1, 2, 3}
	if !impl.SameEnding(impl.Ending{Out: room[:2]}, impl.Ending{Out: []int{1, 2}}) || impl.SameEnding(impl.Ending{Out: room[:2]}, impl.Ending{Out: room}) || !slices.Equal(room, []int{1, 2, 3}) {
		t.Error("SameEnding asks for the room behind an Out")
	}
	e := impl.RunTree(mustRead(t, inMain("print 1; print 2;")), nil, 9)
	if !impl.SameEnding(e, impl.Ending{Out: []int{1, 2}}) || impl.SameEnding(e, impl.Ending{Out: []int{1, 2}, End: impl.OutFuel}) {
		t.Errorf("SameEnding is wrong of %s", endingTold(e))
	}
}

func TestRunKeepsNothing(t *testing.T) {
	first, second := mustRead(t, typedText), mustRead(t, inMain("let a = new input; while *a { print *a; a = new input; }"))
	wrong := mustRead(t, "fn f() { do f(); }")
	runs := []func(){
		func() { runsTo(t, "first", first, []int{1}, 300, "done") },
		func() { runsTo(t, "second", second, []int{3, 2, 1, 0}, 100, "3 2 1 done") },
		func() { runsTo(t, "second", second, []int{3, 2, 1, 0}, 8, "3 fuel") },
		func() { runsTo(t, "second", second, []int{3}, 100, "3 input") },
		func() { runsTo(t, "wrong", wrong, []int{3}, 100, "moved") },
		func() { runsTo(t, "nothing", impl.Program{}, nil, 100, "moved") },
	}
	d := dice(67)
	for range 200 {
		runs[d.below(len(runs))]()
	}
	// Runs of one program beside each other know nothing of one another.
	var all sync.WaitGroup
	for k := range 8 {
		all.Go(func() {
			for range 50 {
				runsTo(t, "second", second, []int{3, k + 1, 0}, 100, "3 "+strconv.Itoa(k+1)+" done")
			}
		})
	}
	all.Wait()
}

func TestRunArgumentsStayAsTheyAre(t *testing.T) {
	bad := mustRead(t, typedText)
	bad.Nodes[9].Num = 1
	for _, base := range []impl.Program{mustRead(t, typedText), mustRead(t, rightText), bad, everyKind(), mustRead(t, inMain("while input { print input; }")), mustRead(t, "fn f(a: int) { }")} {
		p := roomyProgram(base)
		room := []int{1, 8, 1, 9, 0, -77, -77}
		input := room[:5]
		for _, fuel := range []int{0, 1, 5, 30, 300, math.MaxInt, -1} {
			e := impl.RunTree(p, input, fuel)
			for k := range e.Out[:cap(e.Out)] {
				e.Out[:cap(e.Out)][k] = -99
			}
		}
		if !untouched(p.Nodes, base.Nodes) || !samePrograms(p, base) || p.Fns[:len(p.Fns)+1][len(p.Fns)].Res != -77 {
			t.Error("a program that was handed in is changed")
		}
		for _, fn := range p.Fns {
			if fn.Params[:len(fn.Params)+1][len(fn.Params)].Type != -77 {
				t.Error("the room behind the Params of a program that was handed in is changed")
			}
		}
		if !slices.Equal(room, []int{1, 8, 1, 9, 0, -77, -77}) {
			t.Errorf("the input that was handed in is %v", room)
		}
	}
	one, two := []int{1, 2, -77}, []int{1, 3, -77}
	impl.SameEnding(impl.Ending{Out: one[:2]}, impl.Ending{Out: two[:2]})
	if !slices.Equal(one, []int{1, 2, -77}) || !slices.Equal(two, []int{1, 3, -77}) {
		t.Error("an Ending that was handed in is changed")
	}
}

func TestRunAnswersAreNewMemory(t *testing.T) {
	p := roomyProgram(mustRead(t, inMain("while input { print input; }")))
	input := []int{1, 8, 1, 9, 0}
	spans := append(spansOf(p), spanOf(input))
	for range 3 {
		e := impl.RunTree(p, input, 100)
		if endingTold(e) != "8 9 done" {
			t.Fatalf("RunTree is %s", endingTold(e))
		}
		spans = append(spans, spanOf(e.Out))
	}
	if meet(spans) {
		t.Error("answers share memory")
	}
	// What is written into the arguments later does not change an answer.
	e := impl.RunTree(p, input, 100)
	for k := range input {
		input[k] = -5
	}
	for k := range p.Nodes {
		p.Nodes[k].Kind = 0
	}
	if endingTold(e) != "8 9 done" {
		t.Errorf("the answer has become %s", endingTold(e))
	}
}
