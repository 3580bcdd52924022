package tests

import (
	"math"
	"slices"
	"strconv"
	"strings"
	"testing"

	"loop.example/g00423/impl"
)

// usingKinds are the seven kinds that use a name.
func usingKinds() []int {
	return []int{impl.NdVar, impl.NdRead, impl.NdClone, impl.NdLend, impl.NdMut, impl.NdSet, impl.NdStore}
}

// varsTold tells vars in short: a:1@-1 c:0@4.
func varsTold(list []impl.Var) string {
	var told []string
	for _, v := range list {
		told = append(told, v.Name+":"+strconv.Itoa(v.Type)+"@"+strconv.Itoa(v.Node))
	}
	return strings.Join(told, " ")
}

// standing gives the nodes below each of the tops, and these; nothing is below what has no depth.
func standing(p impl.Program, tops ...int) map[int]bool {
	found := map[int]bool{}
	for _, top := range tops {
		if deepByRule(p.Nodes, top) > 0 {
			list := []int{top}
			for at := 0; at < len(list); at++ {
				found[list[at]] = true
				list = append(list, p.Nodes[list[at]].Kids...)
			}
		}
	}
	return found
}

// varsByRule is VarsOf, asked of each place.
func varsByRule(p impl.Program, fn int) []impl.Var {
	if fn < 0 || fn >= len(p.Fns) {
		return nil
	}
	var list []impl.Var
	for _, param := range p.Fns[fn].Params {
		list = append(list, impl.Var{Name: param.Name, Type: param.Type, Node: -1})
	}
	below := standing(p, p.Fns[fn].Body)
	for k, n := range p.Nodes {
		if n.Kind == impl.NdLet && below[k] {
			list = append(list, impl.Var{Name: n.Name, Node: k})
		}
	}
	return list
}

// usesByRule is UsesOf of each name, asked of each place.
func usesByRule(p impl.Program, fn int) map[string][]int {
	uses := map[string][]int{}
	if fn < 0 || fn >= len(p.Fns) {
		return uses
	}
	below := standing(p, p.Fns[fn].Body, p.Fns[fn].Ret)
	for k, n := range p.Nodes {
		if slices.Contains(usingKinds(), n.Kind) && below[k] {
			uses[n.Name] = append(uses[n.Name], k)
		}
	}
	return uses
}

// wayTo gives the nodes from top down to k; nothing when k is not below it.
func wayTo(nodes []impl.Node, top, k int) []int {
	if top == k {
		return []int{k}
	}
	for _, kid := range nodes[top].Kids {
		if way := wayTo(nodes, kid, k); way != nil {
			return append([]int{top}, way...)
		}
	}
	return nil
}

// seenByRule tells whether what is let by the node let may be used by the node use: it is held against the statement of its own block in which the use stands.
func seenByRule(p impl.Program, fn impl.Fn, let, use int) bool {
	wayOfLet := wayTo(p.Nodes, fn.Body, let)
	block := wayOfLet[len(wayOfLet)-2]
	wayOfUse := wayTo(p.Nodes, fn.Body, use)
	if wayOfUse == nil {
		return block == fn.Body
	}
	at := slices.Index(wayOfUse, block)
	steps := p.Nodes[block].Kids
	return at >= 0 && slices.Index(steps, let) < slices.Index(steps, wayOfUse[at+1])
}

// namesByRule is NamesRight, asked of each node by itself.
func namesByRule(p impl.Program) bool {
	if !programByRule(p) {
		return false
	}
	for at, fn := range p.Fns {
		vars := map[string]impl.Var{}
		list := varsByRule(p, at)
		for _, v := range list {
			vars[v.Name] = v
		}
		if len(vars) < len(list) {
			return false
		}
		for k := range standing(p, fn.Body, fn.Ret) {
			n := p.Nodes[k]
			v, known := vars[n.Name]
			switch {
			case n.Kind == impl.NdCall:
				if !slices.ContainsFunc(p.Fns[:at], func(f impl.Fn) bool { return f.Name == n.Name && len(f.Params) == len(n.Kids) }) {
					return false
				}
			case slices.Contains(usingKinds(), n.Kind):
				if !known || v.Node >= 0 && !seenByRule(p, fn, v.Node, k) {
					return false
				}
			}
		}
	}
	return true
}

func isVars(t *testing.T, p impl.Program, fn int, want string) {
	t.Helper()
	if got := varsTold(impl.VarsOf(p, fn)); got != want {
		t.Errorf("VarsOf(.., %d) = %s; want %s", fn, got, want)
	}
}

func isUses(t *testing.T, p impl.Program, fn int, name string, want ...int) {
	t.Helper()
	if got := impl.UsesOf(p, fn, name); !slices.Equal(got, want) {
		t.Errorf("UsesOf(.., %d, %q) = %v; want %v", fn, name, got, want)
	}
}

func isRight(t *testing.T, want bool, text string) {
	t.Helper()
	if got := impl.NamesRight(mustRead(t, text)); got != want {
		t.Errorf("NamesRight = %v of %s", got, text)
	}
}

// scopesByRule holds all of the chapter against the rules, and tells whether the names are right.
func scopesByRule(t *testing.T, what string, p impl.Program) bool {
	t.Helper()
	names := map[string]bool{"": true, "zz": true}
	for _, n := range p.Nodes {
		names[n.Name] = true
	}
	for fn := -1; fn <= len(p.Fns); fn++ {
		if got, want := impl.VarsOf(p, fn), varsByRule(p, fn); !slices.Equal(got, want) {
			t.Fatalf("VarsOf(.., %d) = %s; want %s: %s", fn, varsTold(got), varsTold(want), what)
		}
		uses := usesByRule(p, fn)
		for name := range names {
			if got := impl.UsesOf(p, fn, name); !slices.Equal(got, uses[name]) {
				t.Fatalf("UsesOf(.., %d, %q) = %v; want %v: %s", fn, name, got, uses[name], what)
			}
		}
	}
	want := namesByRule(p)
	if got := impl.NamesRight(p); got != want {
		t.Fatalf("NamesRight = %v: %s", got, what)
	}
	return want
}

func TestVarsOfForms(t *testing.T) {
	for text, want := range map[string][]string{
		"fn f() { }":                                  {""},
		"fn f() -> int { ret 1; }":                    {""},
		"fn f() { print 1; while 0 { } }":             {""},
		"fn f(a: int) { }":                            {"a:1@-1"},
		"fn f(a: box) { }":                            {"a:2@-1"},
		"fn f(a: &box) { }":                           {"a:3@-1"},
		"fn f(a: &mut box) { }":                       {"a:4@-1"},
		"fn f(c: &mut box, b: int, a: box) {}":        {"c:4@-1 b:1@-1 a:2@-1"},
		"fn f() { let a = 1; }":                       {"a:0@1"},
		"fn f() { let a = new 1; }":                   {"a:0@2"},
		"fn f(b: int) { let a = 1; }":                 {"b:1@-1 a:0@1"},
		"fn f() { let z = 1; let b = 2; let a = 3; }": {"z:0@1 b:0@3 a:0@5"},
		"fn f() { if 1 { let a = 1; } else { let b = 2; } let c = 3; }":                 {"a:0@2 b:0@5 c:0@9"},
		"fn f() { while 1 { while 2 { let a = 1; } let b = 2; } }":                      {"a:0@3 b:0@7"},
		"fn f(a: int) { let a = 1; let a = 2; }":                                        {"a:1@-1 a:0@1 a:0@3"},
		"fn f(a: int, a: box) { }":                                                      {"a:1@-1 a:2@-1"},
		"fn f(a: int) -> int { let b = 1; ret b; } fn g() { let a = 1; a = 2; }":        {"a:1@-1 b:0@1", "a:0@5"},
		"fn f() { a = 1; *b = 2; print c + *d; do g(&e, &mut h, clone i); let j = 3; }": {"j:0@14"},
	} {
		p := mustRead(t, text)
		for fn := range want {
			isVars(t, p, fn, want[fn])
		}
	}
	p := everyKind()
	isVars(t, p, 0, "b:3@-1 n:1@-1 m:4@-1")
	isVars(t, p, 1, "b:2@-1 c:0@6")
	isVars(t, p, 2, "")
}

func TestUsesOfForms(t *testing.T) {
	p := mustRead(t, "fn f(a: int) -> int { let b = a; if b { a = 1 + b; } else { *a = *b; } do g(&a, &mut a, clone a); let c = a; ret a + c; } fn g(a: box) { print *a; }")
	isUses(t, p, 0, "a", 0, 6, 9, 12, 13, 14, 17, 20)
	isUses(t, p, 0, "b", 2, 4, 8)
	isUses(t, p, 0, "c", 21)
	isUses(t, p, 1, "a", 23)
	for _, name := range []string{"", "f", "g", "d", "aa", "A", "let", "\xff"} {
		isUses(t, p, 0, name)
		isUses(t, p, 1, name)
	}
	// A name that nobody begins is used, too; and one that is not in sight.
	p = mustRead(t, "fn f() -> int { print x; if 1 { let x = 1; } else { print x; } ret x; }")
	isUses(t, p, 0, "x", 0, 6, 11)
	// The Ret alone; and a name of a var and a function.
	p = mustRead(t, "fn a(a: int) -> int { ret a; } fn b(a: int) -> int { let b = a(a); ret a(b); }")
	isUses(t, p, 0, "a", 1)
	isUses(t, p, 1, "a", 2)
	isUses(t, p, 1, "b", 6)
}

func TestUsesOfEachKind(t *testing.T) {
	for kind := firstKind; kind <= lastKind; kind++ {
		if !hasName(kind) {
			continue
		}
		var pl planter
		var kids []int
		if kidLetter(kind) == 's' {
			kids = []int{pl.num(1)}
		}
		at := pl.put(namedNode(kind, "a", kids...))
		fn := impl.Fn{Name: "f", Res: impl.TyInt, Ret: at}
		if kidLetter(kind) == 's' {
			fn = impl.Fn{Name: "f", Body: pl.block(at), Ret: -1}
		} else {
			fn.Body = pl.block()
		}
		p := impl.Program{Nodes: pl.nodes, Fns: []impl.Fn{fn}}
		if !impl.ProgramOk(p) {
			t.Fatalf("the test's program of Kind %d is not right", kind)
		}
		if slices.Contains(usingKinds(), kind) {
			isUses(t, p, 0, "a", at)
		} else {
			isUses(t, p, 0, "a")
		}
		isUses(t, p, 0, "b")
		// It is used without being begun; only the let begins it.
		if got := impl.NamesRight(p); got != (kind == impl.NdLet) {
			t.Errorf("NamesRight = %v with a Kind %d alone", got, kind)
		}
	}
}

func TestVarAt(t *testing.T) {
	list := []impl.Var{{Name: "a", Type: 1, Node: -1}, {Name: "b", Node: 3}, {Name: "a", Node: 5}, {Name: "abcdefgh", Type: 2}, {Name: "\xff"}, {Name: "let"}, {Name: "b"}}
	for name, want := range map[string]int{"a": 0, "b": 1, "abcdefgh": 3, "\xff": 4, "let": 5, "": -1, "A": -1, "ab": -1, "abcdefg": -1, "abcdefghi": -1, "a ": -1} {
		if got := impl.VarAt(list, name); got != want {
			t.Errorf("VarAt(.., %q) = %d; want %d", name, got, want)
		}
	}
	if got := impl.VarAt(append(list, impl.Var{}, impl.Var{}), ""); got != 7 {
		t.Errorf("VarAt = %d of an empty name that is there", got)
	}
	for _, none := range [][]impl.Var{nil, {}, list[:0]} {
		for _, name := range []string{"", "a"} {
			if got := impl.VarAt(none, name); got != -1 {
				t.Errorf("VarAt(nothing, %q) = %d", name, got)
			}
		}
	}
	p := mustRead(t, "fn f(c: int, b: box) { let a = 1; if a { let d = 2; } else { } }")
	vars := impl.VarsOf(p, 0)
	for want, name := range []string{"c", "b", "a", "d"} {
		if got := impl.VarAt(vars, name); got != want {
			t.Errorf("VarAt(VarsOf, %q) = %d; want %d", name, got, want)
		}
	}
	long := slices.Repeat([]impl.Var{{Name: "x"}}, 100000)
	if got := impl.VarAt(append(long, impl.Var{Name: "y"}), "y"); got != 100000 {
		t.Errorf("VarAt = %d behind 100000", got)
	}
}

func TestNamesRightForms(t *testing.T) {
	for text, want := range map[string]bool{
		"fn f() { }":                               true,
		"fn f() -> int { ret 1; }":                 true,
		"fn f() { print 1 + input; }":              true,
		"fn f(a: int) { print a; }":                true,
		"fn f(a: int, b: box, c: &box) { }":        true,
		"fn f() { let a = 1; print a; }":           true,
		"fn f() { print a; }":                      false,
		"fn f() { a = 1; }":                        false,
		"fn f() { *a = 1; }":                       false,
		"fn f() { print *a; }":                     false,
		"fn f() { print clone a; }":                false,
		"fn f() { print &a; }":                     false,
		"fn f() { print &mut a; }":                 false,
		"fn f() -> int { ret a; }":                 false,
		"fn f() { while a { } }":                   false,
		"fn f() { if a { } else { } }":             false,
		"fn f() { print f; }":                      false,
		"fn f(f: int) { print f; }":                true,
		"fn f() { let f = 1; print f; }":           true,
		"fn g() { } fn f() { print g; }":           false,
		"fn g() { } fn f() { let g = 1; do g(); }": true,
		// Behind its use, and in its own value.
		"fn f() { print a; let a = 1; }":                          false,
		"fn f() { a = 1; let a = 2; }":                            false,
		"fn f() { let b = a; let a = 1; }":                        false,
		"fn f() { let a = a; }":                                   false,
		"fn f() { let a = 1 + new (*a); }":                        false,
		"fn f(a: int) { let b = a; let c = b + a; print c; }":     true,
		"fn f() { let a = 1; a = a + 1; *a = a; }":                true,
		"fn f() { while 1 { print a; let a = 1; } }":              false,
		"fn f() { while 1 { let a = 1; print a; } }":              true,
		"fn f() { while a { let a = 1; } }":                       false,
		"fn f() { if a { let a = 1; } else { } }":                 false,
		"fn f() { if 1 { print a; } else { } let a = 1; }":        false,
		"fn f() { let a = 1; if a { print a; } else { a = 2; } }": true,
		// In another block, and behind the block that ended.
		"fn f() { if 1 { let a = 1; } else { print a; } }":                        false,
		"fn f() { if 1 { print a; } else { let a = 1; } }":                        false,
		"fn f() { if 1 { let a = 1; print a; } else { } }":                        true,
		"fn f() { if 1 { } else { let a = 1; print a; } }":                        true,
		"fn f() { if 1 { let a = 1; } else { } print a; }":                        false,
		"fn f() { if 1 { } else { let a = 1; } print a; }":                        false,
		"fn f() { if 1 { let a = 1; } else { } a = 2; }":                          false,
		"fn f() { while 1 { let a = 1; } print a; }":                              false,
		"fn f() { while 1 { let a = 1; } while a { } }":                           false,
		"fn f() { while 1 { let a = 1; } while 1 { print a; } }":                  false,
		"fn f() { while 1 { while 2 { let a = 1; } print a; } }":                  false,
		"fn f() { while 1 { let a = 1; while 2 { print a; } } }":                  true,
		"fn f() { while 1 { let a = 1; while a { a = 2; } print a; } }":           true,
		"fn f() { let b = 1; while 1 { let a = 1; } print b; }":                   true,
		"fn f(b: int) { while 1 { let a = 1; if a { } else { } } b = 3; }":        true,
		"fn f() { while 1 { let b = 1; } let a = 1; while a { print a; } }":       true,
		"fn f() { while 1 { let b = 1; } let a = 1; while a { print b; } }":       false,
		"fn f() { let a = 1; while 1 { if 1 { while 2 { *a = 1; } } else { } } }": true,
		// Begun twice.
		"fn f(a: int) { let a = 1; }":                                         false,
		"fn f(a: int) { while 1 { let a = 1; } }":                             false,
		"fn f(a: int, a: int) { }":                                            false,
		"fn f(a: int, b: int, a: box) { }":                                    false,
		"fn f() { let a = 1; let a = 2; }":                                    false,
		"fn f() { let a = 1; print a; let b = a; let a = 2; }":                false,
		"fn f() { if 1 { let a = 1; } else { let a = 2; } }":                  false,
		"fn f() { while 1 { let a = 1; } while 1 { let a = 2; } }":            false,
		"fn f() { while 1 { let a = 1; } let a = 2; }":                        false,
		"fn f() { let a = 2; while 1 { let a = 1; } }":                        false,
		"fn f() { if 1 { let a = 1; } else { let b = 2; } }":                  true,
		"fn f(a: int) { } fn g(a: int) { }":                                   true,
		"fn f(a: int) { } fn g() { let a = 1; print a; }":                     true,
		"fn f() { let a = 1; } fn g() { let a = 1; print a; }":                true,
		"fn f() { let a = 1; } fn g() { print a; }":                           false,
		"fn f(a: int) { } fn g() { print a; }":                                false,
		"fn f() { print a; } fn g(a: int) { }":                                false,
		"fn f() -> int { let a = 1; ret a; } fn g() -> int { ret a; }":        false,
		"fn f() { let a = 1; } fn g() { let b = 1; } fn h(a: int) { a = 1; }": true,
		// The Ret.
		"fn f(a: int) -> int { ret a; }":                             true,
		"fn f() -> int { let a = 1; ret a; }":                        true,
		"fn f() -> box { let a = new 1; ret clone a; }":              true,
		"fn f() -> int { print 1; let a = 1; print 2; ret a + *a; }": true,
		"fn f() -> int { while 1 { let a = 1; } ret a; }":            false,
		"fn f() -> int { if 1 { let a = 1; } else { } ret a; }":      false,
		"fn f() -> int { if 1 { } else { let a = 1; } ret 1 + a; }":  false,
		"fn f() -> int { let b = 1; while 1 { let a = 1; } ret b; }": true,
		"fn f(a: int) -> int { while 1 { let b = a; } ret a; }":      true,
	} {
		isRight(t, want, text)
		scopesByRule(t, text, mustRead(t, text))
	}
	if impl.NamesRight(everyKind()) {
		t.Error("NamesRight = true of a call with a value less")
	}
}

func TestNamesRightOfCalls(t *testing.T) {
	for text, want := range map[string]bool{
		"fn g() { } fn f() { do g(); }":                                  true,
		"fn f() { do g(); } fn g() { }":                                  false,
		"fn f() { do f(); }":                                             false,
		"fn g() { } fn f() { do f(); }":                                  false,
		"fn f() { do g(); }":                                             false,
		"fn g() { } fn f() { do h(); }":                                  false,
		"fn g(a: int) { } fn f() { do a(); }":                            false,
		"fn f() { let g = 1; do g(); }":                                  false,
		"fn f(g: int) { do g(); }":                                       false,
		"fn g() { } fn f() { do g(1); }":                                 false,
		"fn g(a: int) { } fn f() { do g(); }":                            false,
		"fn g(a: int) { } fn f() { do g(1); }":                           true,
		"fn g(a: int) { } fn f() { do g(1, 2); }":                        false,
		"fn g(a: int, b: int) { } fn f() { do g(1); }":                   false,
		"fn g(a: int, b: int) { } fn f() { do g(1, 2); }":                true,
		"fn g(a: int, b: int) { } fn f() { do g(1, 2, 3); }":             false,
		"fn g(a: int, b: int, c: int) { } fn f() { do g(1, 2); }":        false,
		"fn g(a: int, b: int, c: int) { } fn f() { do g(1, 2, 3); }":     true,
		"fn g(a: int, b: int, c: int) { } fn f() { do g(); }":            false,
		"fn g() { } fn h(a: int) { } fn f() { do g(); do h(1); }":        true,
		"fn g() { } fn h(a: int) { } fn f() { do g(1); do h(); }":        false,
		"fn g() { } fn h(a: int) { do g(); } fn f() { do h(1); }":        true,
		"fn g(a: int) { } fn f() { do g(g(1)); }":                        true,
		"fn g(a: int) { } fn f() { do g(h(1)); }":                        false,
		"fn g(a: int) { } fn f() { do g(g()); }":                         false,
		"fn g(a: int) { } fn f() { do g(b); }":                           false,
		"fn g(a: int) { } fn f() { do g(a); }":                           false,
		"fn g(a: int) { } fn f(b: int) { do g(b); }":                     true,
		"fn g() -> int { ret 1; } fn f() -> int { ret g(); }":            true,
		"fn g() -> int { ret g(); }":                                     false,
		"fn f() -> int { ret g(); } fn g() -> int { ret 1; }":            false,
		"fn g() -> int { ret 1; } fn f() -> int { ret g(1); }":           false,
		"fn g() -> int { ret 1; } fn f() { while g() { do g(); } }":      true,
		"fn g() -> int { ret 1; } fn f() { if g() + g(2) { } else { } }": false,
		"fn g() { } fn f() { while 1 { if 1 { } else { do f(); } } }":    false,
		// A function without a Res may be called where a value stands: that is a matter of types.
		"fn g() { } fn f() { print g() + 1; let a = g(); }": true,
	} {
		isRight(t, want, text)
		scopesByRule(t, text, mustRead(t, text))
	}
	// Eight functions, each of which calls one.
	for caller := range 8 {
		for called := range 9 {
			text := ""
			for k := range 8 {
				text += "fn f" + strconv.Itoa(k) + "() { "
				if k == caller {
					text += "do f" + strconv.Itoa(called) + "(); "
				}
				text += "} "
			}
			isRight(t, called < caller, text)
		}
	}
}

// A spot is a place in a text: names are seen there, and it stands in a block.
type spot struct {
	mark, block string
	seen        string
}

// spotText has spots for statements and for values.
const spotText = "fn g(x: int) -> int { ret x; } fn f(p: int, q: box) -> int { [S0] let a = [V0]; [S1] if [V1] { [S2] let b = [V2]; [S3] while [V3] { [S4] let c = [V4]; [S5] } [S6] } else { [S7] let d = [V5]; [S8] } [S9] let e = [V6]; [S10] while [V7] { [S11] } [S12] ret [V8]; }"

// stepSpots are the statements' ones in their order; within each block only the blocks of its name and longer ones stand.
func stepSpots() []spot {
	return []spot{
		{"[S0]", "/", "pq"}, {"[S1]", "/", "pqa"}, {"[S2]", "/then/", "pqa"}, {"[S3]", "/then/", "pqab"},
		{"[S4]", "/then/loop/", "pqab"}, {"[S5]", "/then/loop/", "pqabc"}, {"[S6]", "/then/", "pqab"},
		{"[S7]", "/else/", "pqa"}, {"[S8]", "/else/", "pqad"}, {"[S9]", "/", "pqa"}, {"[S10]", "/", "pqae"},
		{"[S11]", "/last/", "pqae"}, {"[S12]", "/", "pqae"},
	}
}

func valueSpots() []spot {
	return []spot{
		{"[V0]", "/", "pq"}, {"[V1]", "/", "pqa"}, {"[V2]", "/then/", "pqa"}, {"[V3]", "/then/", "pqab"}, {"[V4]", "/then/loop/", "pqab"},
		{"[V5]", "/else/", "pqa"}, {"[V6]", "/", "pqa"}, {"[V7]", "/", "pqae"}, {"[V8]", "/", "pqae"},
	}
}

// filled puts texts at the spots, pairs of a mark and a text; at the others nothing, or 1.
func filled(pairs ...string) string {
	text := spotText
	for k := 0; k < len(pairs); k += 2 {
		text = strings.ReplaceAll(text, pairs[k], pairs[k+1])
	}
	for _, s := range stepSpots() {
		text = strings.ReplaceAll(text, s.mark, "")
	}
	for _, s := range valueSpots() {
		text = strings.ReplaceAll(text, s.mark, "1")
	}
	return text
}

func TestNamesRightPlaceByPlace(t *testing.T) {
	isRight(t, true, filled())
	for _, name := range strings.Split("pqabcdexzgf", "") {
		for _, s := range stepSpots() {
			want := strings.Contains(s.seen, name)
			for _, step := range []string{
				"print N;", "print *N;", "print clone N;", "print &N;", "print &mut N;", "N = 1;", "*N = 1;", "do g(N);", "let y = N;", "let y = 1 + (2 < *N);",
				"while N { }", "if &N { } else { }", "while 1 { print N; }", "if 1 { N = 2; } else { }", "if 1 { } else { *N = 2; }", "while 1 { print new clone N; }", "print 1 + g(g(N));",
			} {
				isRight(t, want, filled(s.mark, strings.ReplaceAll(step, "N", name)))
			}
			// To let it again is wrong wherever it is; a new name is right.
			isRight(t, strings.Contains("xzgf", name), filled(s.mark, "let "+name+" = 1;"))
		}
		for _, v := range valueSpots() {
			for _, value := range []string{"N", "*N", "clone N", "&N", "&mut N", "new N", "1 + (2 + *N)", "N < 1", "1 == &N", "g(N)", "g(1 + g(&mut N))"} {
				isRight(t, strings.Contains(v.seen, name), filled(v.mark, strings.ReplaceAll(value, "N", name)))
			}
		}
	}
}

func TestNamesRightOfALetAtEachPlace(t *testing.T) {
	for k, let := range stepSpots() {
		for at, use := range stepSpots() {
			want := k < at && strings.HasPrefix(use.block, let.block)
			if k == at {
				isRight(t, true, filled(use.mark, "let z = 1; print z;"))
				isRight(t, false, filled(use.mark, "print z; let z = 1;"))
				isRight(t, false, filled(use.mark, "let z = 1; let z = 1;"))
				continue
			}
			isRight(t, want, filled(let.mark, "let z = 1;", use.mark, "print z;"))
			isRight(t, want, filled(let.mark, "let z = 1;", use.mark, "while 0 { z = 1; }"))
			isRight(t, false, filled(let.mark, "while 0 { let z = 1; }", use.mark, "print z;"))
			isRight(t, false, filled(let.mark, "let z = 1;", use.mark, "let z = 1;"))
			isRight(t, false, filled(let.mark, "let z = 1;", use.mark, "while 0 { let z = 1; }"))
			isRight(t, true, filled(let.mark, "let z = 1;", use.mark, "let y = 1;"))
		}
		// A loop's value stands ahead of its block, and so does that of an if; the Ret stands at the end.
		isRight(t, let.block == "/", filled(let.mark, "let z = 1;", "[V8]", "z"))
		isRight(t, k <= 10 && let.block == "/", filled(let.mark, "let z = 1;", "[V7]", "z"))
		isRight(t, k <= 3, filled(let.mark, "let z = 1;", "[V3]", "z"))
		isRight(t, k <= 1, filled(let.mark, "let z = 1;", "[V1]", "z"))
	}
}

// The order of statements counts, not that of their nodes.
func TestNamesRightByTheOrderOfStatements(t *testing.T) {
	nodes := []impl.Node{numNode(1), namedNode(impl.NdLet, "a", 0), namedNode(impl.NdVar, "a"), node(impl.NdPrint, 2), node(impl.NdBlock, 1, 3)}
	p := impl.Program{Nodes: nodes, Fns: []impl.Fn{{Name: "f", Body: 4, Ret: -1}}}
	if !impl.NamesRight(p) {
		t.Error("NamesRight = false of a let ahead of its use")
	}
	q := cloneProgram(p)
	q.Nodes[4].Kids = []int{3, 1}
	if !impl.ProgramOk(q) || impl.NamesRight(q) {
		t.Error("NamesRight = true of a let behind its use, whose node stands ahead")
	}
	nodes = []impl.Node{namedNode(impl.NdVar, "a"), node(impl.NdPrint, 0), numNode(1), namedNode(impl.NdLet, "a", 2), node(impl.NdBlock, 3, 1)}
	p.Nodes = nodes
	if !impl.NamesRight(p) {
		t.Error("NamesRight = false of a let ahead of its use, whose node stands behind")
	}
	isVars(t, p, 0, "a:0@3")
	isUses(t, p, 0, "a", 0)
	// The Ret's nodes may stand ahead of the Body's.
	ret := impl.Program{Nodes: []impl.Node{namedNode(impl.NdVar, "a"), numNode(1), namedNode(impl.NdLet, "a", 1), node(impl.NdBlock, 2)}, Fns: []impl.Fn{{Name: "f", Res: impl.TyInt, Body: 3, Ret: 0}}}
	if !impl.NamesRight(ret) {
		t.Error("NamesRight = false of a Ret ahead of the Body")
	}
	isUses(t, ret, 0, "a", 0)
	// Those of functions may be mixed, and vars are told by place.
	mixed := impl.Program{Nodes: []impl.Node{numNode(1), numNode(2), namedNode(impl.NdLet, "b", 0), namedNode(impl.NdLet, "a", 1), numNode(3), namedNode(impl.NdLet, "c", 4), node(impl.NdBlock, 5, 2), node(impl.NdBlock, 3)}, Fns: []impl.Fn{{Name: "g", Body: 7, Ret: -1}, {Name: "f", Body: 6, Ret: -1}}}
	if !impl.NamesRight(mixed) {
		t.Error("NamesRight = false of mixed nodes")
	}
	isVars(t, mixed, 0, "a:0@3")
	isVars(t, mixed, 1, "b:0@2 c:0@5")
}

func TestNamesRightWithNodesElsewhere(t *testing.T) {
	d := dice(41)
	for _, text := range []string{
		filled(), filled("[S12]", "print e;", "[V8]", "a"), filled("[S9]", "print b;"), filled("[S11]", "let z = e;", "[V8]", "z"), filled("[S5]", "c = b;", "[V4]", "g(b)"),
		"fn f(a: int) { } fn g() { let b = 1; while b { let c = b; do f(c); } do f(b); }",
	} {
		p := mustRead(t, text)
		want := impl.NamesRight(p)
		for range 40 {
			// Without the nodes that are nobody's, which elsewhere puts between, in the same order of statements.
			q := onlyReached(elsewhere(&d, p))
			if got := scopesByRule(t, text, q); got != want {
				t.Fatalf("NamesRight = %v with nodes elsewhere: %s", got, text)
			}
		}
	}
}

// onlyReached gives the program without the nodes that no function comes to.
func onlyReached(p impl.Program) impl.Program {
	var kept impl.Program
	to := map[int]int{-1: -1}
	for k, n := range p.Nodes {
		if !slices.ContainsFunc(p.Fns, func(fn impl.Fn) bool {
			return isBelow(p.Nodes, fn.Body, k) || fn.Ret >= 0 && isBelow(p.Nodes, fn.Ret, k)
		}) {
			continue
		}
		to[k] = len(kept.Nodes)
		n.Kids = slices.Clone(n.Kids)
		for at, kid := range n.Kids {
			n.Kids[at] = to[kid]
		}
		kept.Nodes = append(kept.Nodes, n)
	}
	for _, fn := range p.Fns {
		fn.Body, fn.Ret = to[fn.Body], to[fn.Ret]
		kept.Fns = append(kept.Fns, fn)
	}
	return kept
}

func TestScopesAtTheLimits(t *testing.T) {
	// A name of the Body, used in a block as deep as may be.
	for loops := range 5 {
		for name, want := range map[string]bool{"a": true, "p": true, "z": false} {
			text := "fn f(p: int) { let a = 1; " + around(loops, "while a { ", "print "+name+";", " }") + " }"
			p, ok := impl.ReadProgram(text)
			if right := loops <= 3; ok != right {
				t.Fatalf("ReadProgram = %v with %d loops", ok, loops)
			}
			if got := impl.NamesRight(p); got != (want && ok) {
				t.Errorf("NamesRight = %v of %s", got, text)
			}
		}
	}
	// Twelve statements, a let in each; each but the first one uses the one ahead, or itself.
	for at := range 12 {
		text, wrong := "", ""
		for k := range 12 {
			value := "1"
			if k > 0 {
				value = "x" + strconv.Itoa(k-1)
			}
			text += "let x" + strconv.Itoa(k) + " = " + value + "; "
			if k == at {
				value = "x" + strconv.Itoa(k)
			}
			wrong += "let x" + strconv.Itoa(k) + " = " + value + "; "
		}
		isRight(t, true, "fn f() { "+text+"}")
		isRight(t, false, "fn f() { "+wrong+"}")
	}
	// As many nodes as there may be, and one more.
	p := programOf300(0)
	if len(p.Nodes) != 300 || !impl.NamesRight(p) {
		t.Errorf("NamesRight = false of %d nodes", len(p.Nodes))
	}
	if impl.NamesRight(programOf300(1)) {
		t.Error("NamesRight = true of 301 nodes")
	}
	// As many lets as there may be: in eleven loops of twelve, each name once, or one of them twice.
	many := cloneProgram(p)
	lets := 0
	for k, n := range many.Nodes {
		if n.Kind == impl.NdPrint {
			many.Nodes[k] = namedNode(impl.NdLet, "x"+strconv.Itoa(lets), n.Kids...)
			lets++
		}
	}
	if list := impl.VarsOf(many, 0); lets != 133 || len(list) != lets || impl.VarAt(list, "x132") != 132 || !impl.NamesRight(many) {
		t.Errorf("VarsOf has %d of %d lets", len(list), lets)
	}
	for k, v := range impl.VarsOf(many, 0) {
		if k > 0 {
			twice := cloneProgram(many)
			twice.Nodes[v.Node].Name = "x" + strconv.Itoa(k-1)
			if impl.NamesRight(twice) {
				t.Fatalf("NamesRight = true with the name of the let %d twice", k)
			}
		}
	}
}

func TestScopesRefusePlacesThatAreNone(t *testing.T) {
	for _, p := range []impl.Program{everyKind(), {}, {Nodes: everyKind().Nodes}, {Fns: []impl.Fn{}}, mustRead(t, filled())} {
		for _, fn := range wrongPlaces(len(p.Fns)) {
			isVars(t, p, fn, "")
			for _, name := range []string{"", "a", "b", "c", "f"} {
				isUses(t, p, fn, name)
			}
		}
	}
}

func TestScopesOfProgramsWithoutNodesOrFunctions(t *testing.T) {
	for _, p := range []impl.Program{{}, {Nodes: []impl.Node{}, Fns: []impl.Fn{}}, {Nodes: everyKind().Nodes}, {Fns: everyKind().Fns}, {Nodes: []impl.Node{node(impl.NdBlock)}}, {Fns: []impl.Fn{{Name: "f", Ret: -1}}}} {
		if impl.NamesRight(p) {
			t.Errorf("NamesRight = true of %d nodes and %d functions", len(p.Nodes), len(p.Fns))
		}
		for fn := -1; fn <= len(p.Fns); fn++ {
			for _, name := range []string{"", "a", "b"} {
				isUses(t, p, fn, name)
			}
		}
	}
	// The Params are there without a node.
	p := impl.Program{Fns: everyKind().Fns}
	isVars(t, p, 0, "b:3@-1 n:1@-1 m:4@-1")
	isVars(t, p, 1, "b:2@-1")
	isVars(t, p, 2, "")
	// However many there are, and whatever they are.
	p.Fns[0].Params = []impl.Param{{Name: "", Type: -1}, {Name: "let", Type: 77}, {Name: "a", Type: math.MaxInt}, {Name: "a", Type: math.MinInt}, {Name: "\xff"}}
	isVars(t, p, 0, ":-1@-1 let:77@-1 a:9223372036854775807@-1 a:-9223372036854775808@-1 \xff:0@-1")
}

// What is not right has no depth, and all that comes to it has none; what stands ahead is told.
func TestScopesOfBodiesAndRetsThatAreNone(t *testing.T) {
	base := mustRead(t, "fn f(p: int) -> int { let a = p; print a; ret a + p; }")
	body, ret := base.Fns[0].Body, base.Fns[0].Ret
	isUses(t, base, 0, "a", 2, 5)
	for _, wrong := range append(wrongPlaces(len(base.Nodes)), -1) {
		p := cloneProgram(base)
		p.Fns[0].Body = wrong
		isVars(t, p, 0, "p:1@-1")
		isUses(t, p, 0, "a", 5)
		p.Fns[0].Ret = wrong
		isUses(t, p, 0, "a")
		p.Fns[0].Body = body
		isVars(t, p, 0, "p:1@-1 a:0@1")
		isUses(t, p, 0, "a", 2)
		isUses(t, p, 0, "p", 0)
		if impl.NamesRight(p) {
			t.Errorf("NamesRight = true with the Ret %d", wrong)
		}
	}
	for k, n := range base.Nodes {
		p := cloneProgram(base)
		p.Nodes[k].Kids = append(p.Nodes[k].Kids, -1)
		vars, uses := "p:1@-1", []int(nil)
		if k > body {
			vars, uses = "p:1@-1 a:0@1", []int{2}
		}
		if k > ret {
			uses = append(uses, 5)
		}
		isVars(t, p, 0, vars)
		isUses(t, p, 0, "a", uses...)
		if impl.NamesRight(p) {
			t.Errorf("NamesRight = true with a Kid that is none of %v", n)
		}
	}
	// A Body that is no block, a Ret that is no value: what is under them is told alike.
	p := cloneProgram(base)
	p.Fns[0].Body, p.Fns[0].Ret = 1, body
	isVars(t, p, 0, "p:1@-1 a:0@1")
	isUses(t, p, 0, "p", 0)
	isUses(t, p, 0, "a", 2)
	p.Fns[0].Body, p.Fns[0].Ret = ret, 1
	isVars(t, p, 0, "p:1@-1")
	isUses(t, p, 0, "p", 0, 6)
	isUses(t, p, 0, "a", 5)
	// A let under the Ret alone begins nothing.
	p.Fns[0].Body, p.Fns[0].Ret = 3, 1
	isVars(t, p, 0, "p:1@-1")
	isUses(t, p, 0, "a", 2)
	isUses(t, p, 0, "p", 0)
}

func TestScopesOfNodesComeToTwice(t *testing.T) {
	nodes := []impl.Node{namedNode(impl.NdVar, "b"), namedNode(impl.NdLet, "a", 0), namedNode(impl.NdLet, "c", 0), node(impl.NdBlock, 1), node(impl.NdBlock, 2, 1), node(impl.NdIf, 0, 3, 4), node(impl.NdWhile, 0, 3), node(impl.NdBlock, 5, 6, 1)}
	p := impl.Program{Nodes: nodes, Fns: []impl.Fn{{Name: "f", Params: []impl.Param{{Name: "b", Type: impl.TyInt}}, Body: 7, Ret: -1}}}
	isVars(t, p, 0, "b:1@-1 a:0@1 c:0@2")
	isUses(t, p, 0, "b", 0)
	// The Ret and the Body come to the same.
	p.Fns[0].Ret = 0
	isUses(t, p, 0, "b", 0)
	p.Fns[0].Ret = 7
	isVars(t, p, 0, "b:1@-1 a:0@1 c:0@2")
	isUses(t, p, 0, "b", 0)
	if impl.NamesRight(p) {
		t.Error("NamesRight = true of nodes that are come to twice")
	}
	// Three calls below each call, ten deep: each use once.
	var pl planter
	calls := []int{pl.put(namedNode(impl.NdVar, "a")), pl.put(namedNode(impl.NdRead, "a")), pl.put(namedNode(impl.NdLend, "a"))}
	for range 7 {
		calls = []int{pl.put(namedNode(impl.NdCall, "a", calls...)), pl.put(namedNode(impl.NdCall, "a", calls...)), pl.put(namedNode(impl.NdCall, "a", calls...))}
	}
	body := pl.block(pl.put(namedNode(impl.NdLet, "x", calls[0])), pl.put(namedNode(impl.NdSet, "a", calls[1])))
	wide := impl.Program{Nodes: pl.nodes, Fns: []impl.Fn{{Name: "f", Body: body, Ret: calls[2]}}}
	isVars(t, wide, 0, "x:0@"+strconv.Itoa(body-2))
	isUses(t, wide, 0, "a", 0, 1, 2, body-1)
	// A ring has no depth.
	ring := impl.Program{Nodes: []impl.Node{node(impl.NdBlock, 1), node(impl.NdWhile, 2, 0), namedNode(impl.NdVar, "a"), namedNode(impl.NdLet, "b", 2)}, Fns: []impl.Fn{{Name: "f", Body: 0, Ret: 2}, {Name: "g", Body: 3, Ret: 3}}}
	for fn := range 2 {
		isVars(t, ring, fn, "")
		isUses(t, ring, fn, "a")
	}
	// So long a list of nodes that are right each.
	long := impl.Program{Nodes: slices.Repeat([]impl.Node{namedNode(impl.NdVar, "a")}, 20000), Fns: []impl.Fn{{Name: "f", Body: 20001, Ret: 19999}}}
	long.Nodes = append(long.Nodes, namedNode(impl.NdLet, "b", 7), node(impl.NdBlock, 20000))
	isVars(t, long, 0, "b:0@20000")
	isUses(t, long, 0, "a", 7, 19999)
	if impl.NamesRight(long) {
		t.Error("NamesRight = true of 20002 nodes")
	}
}

// rightText has each Kind, and its names are right.
const rightText = `fn one(b: &box, n: int, m: &mut box) -> int {
  *m = *b;
  ret *b + n;
}
fn two(b: box) -> box {
  let c = new 0;
  c = clone b;
  do one(&b, 2, &mut c);
  ret c;
}
fn main() {
  let x = two(new input);
  while *x < 9 {
    let y = *x;
    if y == 3 {
      *x = y;
    } else {
      let z = y;
      print z;
    }
  }
}
`

func TestScopesOfChangedPrograms(t *testing.T) {
	base := mustRead(t, rightText)
	if !impl.NamesRight(base) {
		t.Fatal("the test's program is not right")
	}
	right, unseen, wrong := 0, 0, 0
	count := func(what string, p impl.Program) {
		switch {
		case scopesByRule(t, what, p):
			right++
		case impl.ProgramOk(p):
			unseen++
		default:
			wrong++
		}
	}
	changesOf(base, count)
	changesOf(mustRead(t, filled("[S12]", "print e;", "[V4]", "g(p)")), count)
	changedPrograms(count)
	if right < 100 || unseen < 100 || wrong < 1000 {
		t.Errorf("%d right ones, %d with wrong names, %d wrong ones: the test tells little", right, unseen, wrong)
	}
}

// Each name of a right program becomes each other one.
func TestScopesWithOtherNames(t *testing.T) {
	right, wrong := 0, 0
	for _, text := range []string{rightText, filled(), filled("[S5]", "c = a;", "[S8]", "d = q;", "[V8]", "e", "[V3]", "b", "[S11]", "let z = 1;")} {
		base := mustRead(t, text)
		names := []string{"one", "two", "main", "f", "g", "h"}
		for fn := range base.Fns {
			for _, v := range impl.VarsOf(base, fn) {
				names = append(names, v.Name)
			}
		}
		see := func(what string, p impl.Program) {
			if scopesByRule(t, what, p) {
				right++
			} else {
				wrong++
			}
		}
		for _, name := range names {
			for k, n := range base.Nodes {
				if n.Name != "" {
					p := cloneProgram(base)
					p.Nodes[k].Name = name
					see("node "+strconv.Itoa(k)+" is "+name, p)
				}
			}
			for fn := range base.Fns {
				p := cloneProgram(base)
				p.Fns[fn].Name = name
				see("function "+strconv.Itoa(fn)+" is "+name, p)
				for at := range base.Fns[fn].Params {
					p := cloneProgram(base)
					p.Fns[fn].Params[at].Name = name
					see("a param is "+name, p)
				}
			}
		}
		// And functions, and the statements of each block, stand in other orders.
		for a := range base.Fns {
			for b := range a {
				p := cloneProgram(base)
				p.Fns[a], p.Fns[b] = p.Fns[b], p.Fns[a]
				see("functions changed about", p)
			}
		}
		for k, n := range base.Nodes {
			for a := range n.Kids {
				for b := range a {
					p := cloneProgram(base)
					p.Nodes[k].Kids[a], p.Nodes[k].Kids[b] = p.Nodes[k].Kids[b], p.Nodes[k].Kids[a]
					see("Kids changed about", p)
				}
			}
		}
	}
	if right < 100 || wrong < 500 {
		t.Errorf("%d right ones, %d wrong ones: the test tells little", right, wrong)
	}
}

// A namer makes up functions whose names are mostly right: it knows which ones it sees.
type namer struct {
	planter
	dice
	fns  []impl.Fn
	seen []string
	// begun counts the names of a function; wrong is how seldom any other name is taken.
	begun, wrong int
}

func (m *namer) used() string {
	if m.below(m.wrong) == 0 || len(m.seen) == 0 {
		return "v" + strconv.Itoa(m.below(m.begun+2))
	}
	return m.seen[m.below(len(m.seen))]
}

func (m *namer) let() string {
	if m.below(m.wrong) == 0 {
		return m.used()
	}
	m.begun++
	return "v" + strconv.Itoa(m.begun-1)
}

func (m *namer) value(deep int) int {
	kind := 1 + m.below(12)
	switch {
	case deep <= 1 && kind > impl.NdInput || kind == impl.NdNum || len(m.seen) == 0 && kind < impl.NdInput:
		return m.num(m.below(9))
	case kind < impl.NdInput:
		return m.put(namedNode(kind, m.used()))
	case kind == impl.NdInput:
		return m.put(node(kind))
	case kind == impl.NdNew:
		return m.put(node(kind, m.value(deep-1)))
	case kind == impl.NdCall:
		return m.call(deep)
	}
	left := m.value(deep - 1)
	return m.put(node(kind, left, m.value(deep-1)))
}

func (m *namer) call(deep int) int {
	at := m.below(len(m.fns))
	if m.below(m.wrong) == 0 {
		return m.put(namedNode(impl.NdCall, "f"+strconv.Itoa(m.below(9))))
	}
	var kids []int
	for range m.fns[at].Params {
		kids = append(kids, m.value(deep-1))
	}
	return m.put(namedNode(impl.NdCall, m.fns[at].Name, kids...))
}

func (m *namer) step(deep int) int {
	switch m.below(8) {
	case 0, 1:
		at := m.value(2)
		name := m.let()
		m.seen = append(m.seen, name)
		return m.put(namedNode(impl.NdLet, name, at))
	case 2:
		return m.put(namedNode(impl.NdSet, m.used(), m.value(2)))
	case 3:
		return m.put(namedNode(impl.NdStore, m.used(), m.value(2)))
	case 4:
		if deep > 3 {
			asked := m.value(2)
			then := m.within(deep)
			return m.put(node(impl.NdIf, asked, then, m.within(deep)))
		}
	case 5:
		if deep > 3 {
			asked := m.value(2)
			return m.put(node(impl.NdWhile, asked, m.within(deep)))
		}
	case 6:
		return m.put(node(impl.NdDo, m.call(2)))
	}
	return m.put(node(impl.NdPrint, m.value(2)))
}

func (m *namer) steps(deep int) int {
	var kids []int
	for range 1 + m.below(4) {
		kids = append(kids, m.step(deep))
	}
	return m.planter.block(kids...)
}

// within makes a block whose names go out of sight, but now and then one of them stays, which is wrong.
func (m *namer) within(deep int) int {
	seen := slices.Clone(m.seen)
	at := m.steps(deep - 2)
	if m.below(m.wrong) > 0 {
		m.seen = seen
	}
	return at
}

func (m *namer) program() impl.Program {
	m.fns = []impl.Fn{{Name: "f0", Body: m.planter.block(), Ret: -1}}
	for k := range 1 + m.below(3) {
		m.seen, m.begun = nil, 0
		fn := impl.Fn{Name: "f" + strconv.Itoa(k+1), Ret: -1}
		for range m.below(4) {
			fn.Params = append(fn.Params, impl.Param{Name: m.let(), Type: 1 + m.below(4)})
			m.seen = append(m.seen, fn.Params[len(fn.Params)-1].Name)
		}
		// The Ret is at times put first, as long as it uses only params.
		early := m.below(4) == 0
		if early {
			fn.Ret = m.value(2)
		}
		fn.Body = m.steps(8)
		if !early && m.below(2) == 0 {
			fn.Ret = m.value(2)
		}
		if fn.Ret >= 0 {
			fn.Res = 1 + m.below(2)
		}
		m.fns = append(m.fns, fn)
	}
	return impl.Program{Nodes: m.nodes, Fns: m.fns}
}

func TestScopesOfAnyPrograms(t *testing.T) {
	right, wrong, most := 0, 0, 0
	for start := range 2500 {
		m := namer{dice: dice(start), wrong: []int{1000000, 200, 60}[start%3]}
		p := m.program()
		if len(p.Nodes) > 120 {
			continue
		}
		if scopesByRule(t, "start "+strconv.Itoa(start), p) {
			right, most = right+1, max(most, len(p.Nodes))
		} else {
			wrong++
		}
	}
	if right < 500 || wrong < 500 || most < 60 {
		t.Errorf("%d right ones of at most %d nodes, %d wrong ones: the test tells little", right, most, wrong)
	}
}

func TestScopesOfAnyNodes(t *testing.T) {
	d := dice(43)
	vars, uses := 0, 0
	for range 8000 {
		p := impl.Program{Nodes: anyNodes(&d, 1+d.below(24))}
		for k := range 1 + d.below(3) {
			p.Fns = append(p.Fns, impl.Fn{Name: "f" + strconv.Itoa(k), Res: d.below(3), Body: d.below(len(p.Nodes)+2) - 1, Ret: d.below(len(p.Nodes)+2) - 1})
		}
		for k := range p.Nodes {
			if p.Nodes[k].Name != "" {
				p.Nodes[k].Name = []string{"a", "b", "f0"}[d.below(3)]
			}
		}
		scopesByRule(t, programTold(impl.Program{Fns: p.Fns}), p)
		for fn := range p.Fns {
			vars += len(impl.VarsOf(p, fn))
			uses += len(impl.UsesOf(p, fn, "a"))
		}
	}
	if vars < 500 || uses < 500 {
		t.Errorf("%d vars, %d uses: the test tells little", vars, uses)
	}
}

// A program that is right has its vars and uses where the names are: each named node is a let, a use or a call.
func TestScopesAreAllNames(t *testing.T) {
	for _, text := range append(programTexts(), rightText, filled(), filled("[S5]", "c = a;", "[V8]", "e")) {
		p := mustRead(t, text)
		all := map[int]int{}
		for fn := range p.Fns {
			names := map[string]bool{}
			for _, n := range p.Nodes {
				names[n.Name] = true
			}
			for name := range names {
				for _, k := range impl.UsesOf(p, fn, name) {
					all[k]++
				}
			}
			for _, v := range impl.VarsOf(p, fn) {
				if v.Node >= 0 {
					all[v.Node]++
				}
			}
		}
		for k, n := range p.Nodes {
			want := 0
			if hasName(n.Kind) && n.Kind != impl.NdCall {
				want = 1
			}
			if all[k] != want {
				t.Errorf("the node %s is told %d times: %s", nodeTold(n), all[k], text)
			}
		}
	}
}

func TestScopesKeepNothing(t *testing.T) {
	right, wrong := mustRead(t, filled("[V8]", "e")), mustRead(t, filled("[V8]", "b"))
	vars := varsTold(impl.VarsOf(right, 1))
	for range 20 {
		impl.NamesRight(everyKind())
		impl.NamesRight(impl.Program{})
		if impl.NamesRight(wrong) || !impl.NamesRight(right) {
			t.Fatal("NamesRight hangs on what was asked ahead")
		}
		isVars(t, right, 1, vars)
		isVars(t, right, 0, "x:1@-1")
		isUses(t, right, 0, "x", 1)
		isUses(t, right, 0, "e")
	}
}

func TestScopeArgumentsStayAsTheyAre(t *testing.T) {
	bad := mustRead(t, rightText)
	bad.Nodes[9].Num = 1
	for _, base := range []impl.Program{mustRead(t, rightText), bad, everyKind(), mustRead(t, filled("[V8]", "b"))} {
		p := roomyProgram(base)
		impl.NamesRight(p)
		for fn := -1; fn <= len(p.Fns); fn++ {
			impl.VarsOf(p, fn)
			impl.UsesOf(p, fn, "b")
			impl.UsesOf(p, fn, "")
		}
		if !untouched(p.Nodes, base.Nodes) || !samePrograms(p, base) || p.Fns[:len(p.Fns)+1][len(p.Fns)].Res != -77 {
			t.Error("a program that was handed in is changed")
		}
		for _, fn := range p.Fns {
			if fn.Params[:len(fn.Params)+1][len(fn.Params)].Type != -77 {
				t.Error("the room behind the Params of a program that was handed in is changed")
			}
		}
	}
	list := []impl.Var{{Name: "b", Type: 1, Node: -1}, {Name: "a", Node: 4}, {Name: "b", Node: 2}}
	before := slices.Clone(list)
	for _, name := range []string{"a", "b", "c", ""} {
		impl.VarAt(list[:2], name)
		impl.VarAt(list, name)
	}
	if !slices.Equal(list, before) {
		t.Error("a list that was handed in is changed")
	}
}

func TestScopeAnswersAreNewMemory(t *testing.T) {
	p := roomyProgram(mustRead(t, rightText))
	given := spansOf(p)
	for fn := range p.Fns {
		list := slices.Clone(given)
		for range 2 {
			vars := impl.VarsOf(p, fn)
			if len(vars) == 0 {
				t.Fatalf("VarsOf(.., %d) is empty", fn)
			}
			list = append(list, spanOf(vars))
			for _, v := range vars {
				list = append(list, textSpan(v.Name))
			}
			for _, name := range []string{"b", "c", "x"} {
				if uses := impl.UsesOf(p, fn, name); len(uses) > 0 {
					list = append(list, spanOf(uses))
				}
			}
		}
		if meet(list) {
			t.Errorf("answers of the function %d share memory", fn)
		}
	}
}
