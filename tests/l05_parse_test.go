package tests

import (
	"slices"
	"strconv"
	"strings"
	"testing"

	"loop.example/g00423/impl"
)

// nodeTold tells a node in short: add(0 1), num:7, let:a(3).
func nodeTold(n impl.Node) string {
	names := []string{"?", "num", "var", "read", "clone", "lend", "mut", "input", "new", "add", "less", "same", "call", "let", "set", "store", "if", "while", "print", "do", "block"}
	told := names[n.Kind]
	if n.Kind == impl.NdNum || n.Num != 0 {
		told += ":" + strconv.Itoa(n.Num)
	}
	if n.Name != "" {
		told += ":" + n.Name
	}
	if len(n.Kids) > 0 {
		var kids []string
		for _, kid := range n.Kids {
			kids = append(kids, strconv.Itoa(kid))
		}
		told += "(" + strings.Join(kids, " ") + ")"
	}
	return told
}

func nodesTold(nodes []impl.Node) string {
	var list []string
	for _, n := range nodes {
		list = append(list, nodeTold(n))
	}
	return strings.Join(list, " ")
}

// fnTold tells a function in short: f(a:1 b:3):2 body 4 ret -1.
func fnTold(fn impl.Fn) string {
	var params []string
	for _, param := range fn.Params {
		params = append(params, param.Name+":"+strconv.Itoa(param.Type))
	}
	return fn.Name + "(" + strings.Join(params, " ") + "):" + strconv.Itoa(fn.Res) + " body " + strconv.Itoa(fn.Body) + " ret " + strconv.Itoa(fn.Ret)
}

func programTold(p impl.Program) string {
	told := nodesTold(p.Nodes)
	for _, fn := range p.Fns {
		told += "; " + fnTold(fn)
	}
	return told
}

func reads(t *testing.T, text string, want impl.Program) {
	t.Helper()
	if got, ok := impl.ReadProgram(text); !ok || !samePrograms(got, want) {
		t.Fatalf("ReadProgram(%.200q) = %.300s, %v; want %.300s, true", text, programTold(got), ok, programTold(want))
	}
}

func readsTold(t *testing.T, text string, want string) {
	t.Helper()
	if got, ok := impl.ReadProgram(text); !ok || programTold(got) != want {
		t.Errorf("ReadProgram(%.200q) = %.300s, %v; want %.300s, true", text, programTold(got), ok, want)
	}
}

func misreads(t *testing.T, text string) {
	t.Helper()
	if got, ok := impl.ReadProgram(text); ok || len(got.Nodes) != 0 || len(got.Fns) != 0 {
		t.Errorf("ReadProgram(%.200q) = %.300s, %v; want nothing, false", text, programTold(got), ok)
	}
}

// readsIf reads or refuses a text, as is wanted.
func readsIf(t *testing.T, right bool, text string) {
	t.Helper()
	if got, ok := impl.ReadProgram(text); ok != right || !right && (len(got.Nodes) != 0 || len(got.Fns) != 0) {
		t.Errorf("ReadProgram(%.200q) = %d nodes, %v; want %v", text, len(got.Nodes), ok, right)
	}
}

func mustRead(t *testing.T, text string) impl.Program {
	t.Helper()
	p, ok := impl.ReadProgram(text)
	if !ok {
		t.Fatalf("ReadProgram(%.200q) = false", text)
	}
	return p
}

// A wood is a part of a program as its words tell it: a node, what stands below it, and how many terms and blocks stand in one another in it.
type wood struct {
	top  impl.Node
	kids []wood
	nest int
}

// A way is one way to read signs from a place on: what stands there, and the place behind it.
type way struct {
	woods  []wood
	behind int
}

// A rule gives all ways to read what it tells.
type rule func(signs []impl.Sign, at int) []way

// These are woods that are no nodes: a name or a type, a param, a function.
const (
	woodWord  = -1
	woodParam = -2
	woodFn    = -3
)

func sign(text string) rule {
	return func(signs []impl.Sign, at int) []way {
		if at < len(signs) && signs[at].Text == text {
			return []way{{behind: at + 1}}
		}
		return nil
	}
}

// signFor reads a sign that stands for what the wood tells.
func signFor(top impl.Node, holds func(impl.Sign) bool) rule {
	return func(signs []impl.Sign, at int) []way {
		if at >= len(signs) || !holds(signs[at]) {
			return nil
		}
		one := top
		if signs[at].Kind == impl.SgNum {
			one.Num = signs[at].Num
		}
		if one.Kind == woodWord && one.Num == 0 {
			one.Name = signs[at].Text
		}
		return []way{{woods: []wood{{top: one}}, behind: at + 1}}
	}
}

func isText(text string) func(impl.Sign) bool {
	return func(s impl.Sign) bool { return s.Text == text }
}

func row(rules ...rule) rule {
	return func(signs []impl.Sign, at int) []way {
		ways := []way{{behind: at}}
		for _, next := range rules {
			var longer []way
			for _, w := range ways {
				for _, more := range next(signs, w.behind) {
					longer = append(longer, way{slices.Concat(w.woods, more.woods), more.behind})
				}
			}
			ways = longer
		}
		return ways
	}
}

func either(rules ...rule) rule {
	return func(signs []impl.Sign, at int) []way {
		var ways []way
		for _, one := range rules {
			ways = append(ways, one(signs, at)...)
		}
		return ways
	}
}

func maybe(r rule) rule { return either(row(), r) }

// many reads it any number of times.
func many(r rule) rule {
	return func(signs []impl.Sign, at int) []way {
		ways := []way{{behind: at}}
		for k := 0; k < len(ways); k++ {
			for _, more := range r(signs, ways[k].behind) {
				ways = append(ways, way{slices.Concat(ways[k].woods, more.woods), more.behind})
			}
		}
		return ways
	}
}

func commas(r rule) rule { return maybe(row(r, many(row(sign(","), r)))) }

func nestOf(woods []wood) int {
	most := 0
	for _, w := range woods {
		most = max(most, w.nest)
	}
	return most
}

// joined makes one wood of those that are read.
func joined(r rule, join func(woods []wood) wood) rule {
	return func(signs []impl.Sign, at int) []way {
		ways := r(signs, at)
		for k, w := range ways {
			ways[k].woods = []wood{join(w.woods)}
		}
		return ways
	}
}

// as makes a node of this Kind; a word that stands first is its Name.
func as(kind int, r rule) rule {
	return joined(r, func(woods []wood) wood {
		one := wood{top: impl.Node{Kind: kind}, nest: nestOf(woods)}
		if len(woods) > 0 && woods[0].top.Kind == woodWord {
			one.top.Name = woods[0].top.Name
			woods = woods[1:]
		}
		one.kids = woods
		return one
	})
}

// nested makes one more term or block around what is one already.
func nested(r rule) rule {
	return joined(r, func(woods []wood) wood {
		one := woods[0]
		one.nest++
		return one
	})
}

// chained makes a node of the first two values and the Kind between them, then of this and the next, and so on.
func chained(woods []wood) wood {
	one := woods[0]
	for k := 1; k < len(woods); k += 2 {
		one = wood{top: woods[k].top, kids: []wood{one, woods[k+1]}, nest: max(one.nest, woods[k+1].nest)}
	}
	return one
}

// grammar is chapter 5, written down again.
func grammar() rule {
	var value, term, block, wrapped rule
	later := func(r *rule) rule {
		return func(signs []impl.Sign, at int) []way { return (*r)(signs, at) }
	}
	name := signFor(impl.Node{Kind: woodWord}, func(s impl.Sign) bool {
		return s.Kind == impl.SgName && !slices.Contains(keyWordTexts(), s.Text)
	})
	pairMark := func(text string, kind int) rule { return signFor(impl.Node{Kind: kind}, isText(text)) }
	typed := func(kind int, last string, ahead ...rule) rule {
		return row(append(ahead, signFor(impl.Node{Kind: woodWord, Num: kind}, isText(last)))...)
	}
	types := either(typed(1, "int"), typed(2, "box"), typed(3, "box", sign("&")), typed(4, "box", sign("&"), sign("mut")))
	call := nested(as(impl.NdCall, row(name, sign("("), commas(later(&value)), sign(")"))))
	wrapped = either(call, nested(row(sign("("), later(&wrapped), sign(")"))))
	term = either(call, nested(either(
		signFor(impl.Node{Kind: impl.NdNum}, func(s impl.Sign) bool { return s.Kind == impl.SgNum }),
		as(impl.NdVar, name), as(impl.NdRead, row(sign("*"), name)), as(impl.NdClone, row(sign("clone"), name)),
		as(impl.NdLend, row(sign("&"), name)), as(impl.NdMut, row(sign("&"), sign("mut"), name)),
		as(impl.NdInput, sign("input")), as(impl.NdNew, row(sign("new"), later(&term))),
		row(sign("("), later(&value), sign(")")))))
	sum := joined(row(term, many(row(pairMark("+", impl.NdAdd), term))), chained)
	value = joined(row(sum, maybe(row(either(pairMark("<", impl.NdLess), pairMark("==", impl.NdSame)), sum))), chained)
	held := row(name, sign("="), value, sign(";"))
	step := either(
		as(impl.NdLet, row(sign("let"), held)), as(impl.NdSet, held), as(impl.NdStore, row(sign("*"), held)),
		as(impl.NdIf, row(sign("if"), value, later(&block), sign("else"), later(&block))),
		as(impl.NdWhile, row(sign("while"), value, later(&block))),
		as(impl.NdPrint, row(sign("print"), value, sign(";"))), as(impl.NdDo, row(sign("do"), wrapped, sign(";"))))
	steps := nested(as(impl.NdBlock, many(step)))
	block = row(sign("{"), steps, sign("}"))
	param := joined(row(name, sign(":"), types), func(woods []wood) wood {
		return wood{top: impl.Node{Kind: woodParam, Name: woods[0].top.Name, Num: woods[1].top.Num}}
	})
	fn := as(woodFn, row(sign("fn"), name, sign("("), commas(param), sign(")"), maybe(row(sign("->"), types)),
		sign("{"), steps, maybe(row(sign("ret"), value, sign(";"))), sign("}")))
	return many(fn)
}

var grammarOfPrograms = grammar()

// put puts all of a wood behind each other, in the order in which they end.
func (w wood) put(pl *planter) int {
	n := w.top
	for _, kid := range w.kids {
		n.Kids = append(n.Kids, kid.put(pl))
	}
	return pl.put(n)
}

// readByRule is ReadProgram, by the rules one by one.
func readByRule(text string) (impl.Program, bool) {
	signs, ok := signsByRule(text)
	if !ok {
		return impl.Program{}, false
	}
	whole := slices.DeleteFunc(grammarOfPrograms(signs, 0), func(w way) bool { return w.behind != len(signs) })
	if len(whole) > 1 {
		panic("two ways to read " + text)
	}
	if len(whole) == 0 {
		return impl.Program{}, false
	}
	var pl planter
	var p impl.Program
	// A term in more than 12 terms and blocks; a block in more than 11 is too deep a tree already.
	tooMany := false
	for _, w := range whole[0].woods {
		fn := impl.Fn{Name: w.top.Name, Body: -1, Ret: -1}
		for _, kid := range w.kids {
			switch {
			case kid.top.Kind == woodParam:
				fn.Params = append(fn.Params, impl.Param{Name: kid.top.Name, Type: kid.top.Num})
			case kid.top.Kind == woodWord:
				fn.Res = kid.top.Num
			case fn.Body < 0:
				fn.Body = kid.put(&pl)
				tooMany = tooMany || kid.nest > 13
			default:
				// It stands in the block of its function.
				fn.Ret = kid.put(&pl)
				tooMany = tooMany || kid.nest+1 > 13
			}
		}
		p.Fns = append(p.Fns, fn)
	}
	p.Nodes = pl.nodes
	if tooMany || !programByRule(p) {
		return impl.Program{}, false
	}
	return p, true
}

// readsByRule holds ReadProgram against the rules, and tells whether the text is a program.
func readsByRule(t *testing.T, text string) bool {
	t.Helper()
	want, right := readByRule(text)
	got, ok := impl.ReadProgram(text)
	if ok != right || !samePrograms(got, want) {
		t.Fatalf("ReadProgram(%.300q) = %.300s, %v; want %.300s, %v", text, programTold(got), ok, programTold(want), right)
	}
	return ok
}

// valuesTold gives values in words, and their nodes.
func valuesTold() map[string]string {
	return map[string]string{
		"0": "num:0", "7": "num:7", "1000000000": "num:1000000000", "007": "num:7", "0000000000": "num:0",
		"a": "var:a", "abcdefgh": "var:abcdefgh", "x1": "var:x1", "fn1": "var:fn1",
		"*a": "read:a", "* a": "read:a", "clone a": "clone:a", "&a": "lend:a", "& a": "lend:a", "&mut a": "mut:a", "& mut a": "mut:a", "&mutt": "lend:mutt",
		"input": "input", "inputs": "var:inputs",
		"new 1": "num:1 new(0)", "new a": "var:a new(0)", "new *a": "read:a new(0)", "new input": "input new(0)", "new clone a": "clone:a new(0)",
		"new &a": "lend:a new(0)", "new &mut a": "mut:a new(0)", "new new 1": "num:1 new(0) new(1)", "new f()": "call:f new(0)", "new f(1)": "num:1 call:f(0) new(1)",
		"new (1)": "num:1 new(0)", "new (1 + 2)": "num:1 num:2 add(0 1) new(2)", "new 1 + 2": "num:1 new(0) num:2 add(1 2)", "1 + new 2": "num:1 num:2 new(1) add(0 2)",
		"new 1 < new 2": "num:1 new(0) num:2 new(2) less(1 3)",
		"f()":           "call:f", "f ( )": "call:f", "f(1)": "num:1 call:f(0)", "f(1, 2)": "num:1 num:2 call:f(0 1)", "f(a,b,c)": "var:a var:b var:c call:f(0 1 2)",
		"f(g())": "call:g call:f(0)", "f(g(1), h(2), 3)": "num:1 call:g(0) num:2 call:h(2) num:3 call:f(1 3 4)",
		"f(1 + 2, 3 == 4)": "num:1 num:2 add(0 1) num:3 num:4 same(3 4) call:f(2 5)", "f((1))": "num:1 call:f(0)", "f(&mut a, *b)": "mut:a read:b call:f(0 1)",
		"(1)": "num:1", "((a))": "var:a", "(((*a)))": "read:a", "(f())": "call:f",
		"1 + 2": "num:1 num:2 add(0 1)", "1 + 2 + 3": "num:1 num:2 add(0 1) num:3 add(2 3)", "(1 + 2) + 3": "num:1 num:2 add(0 1) num:3 add(2 3)",
		"1 + (2 + 3)": "num:1 num:2 num:3 add(1 2) add(0 3)", "1 + 2 + 3 + 4": "num:1 num:2 add(0 1) num:3 add(2 3) num:4 add(4 5)",
		"(1 + 2) + (3 + 4)": "num:1 num:2 add(0 1) num:3 num:4 add(3 4) add(2 5)", "1 + (2 + 3) + 4": "num:1 num:2 num:3 add(1 2) add(0 3) num:4 add(4 5)",
		"1 < 2": "num:1 num:2 less(0 1)", "1 == 2": "num:1 num:2 same(0 1)", "1<2": "num:1 num:2 less(0 1)", "1==2": "num:1 num:2 same(0 1)",
		"1 + 2 < 3": "num:1 num:2 add(0 1) num:3 less(2 3)", "1 == 2 + 3": "num:1 num:2 num:3 add(1 2) same(0 3)", "1 + 2 == 3 + 4": "num:1 num:2 add(0 1) num:3 num:4 add(3 4) same(2 5)",
		"1 + 2 + 3 < 4 + 5 + 6": "num:1 num:2 add(0 1) num:3 add(2 3) num:4 num:5 add(5 6) num:6 add(7 8) less(4 9)",
		"(1 < 2) < 3":           "num:1 num:2 less(0 1) num:3 less(2 3)", "1 < (2 == 3)": "num:1 num:2 num:3 same(1 2) less(0 3)", "(1 < 2) + 3": "num:1 num:2 less(0 1) num:3 add(2 3)",
		"1 + (2 < 3)": "num:1 num:2 num:3 less(1 2) add(0 3)", "(1 == 2) == (3 < 4)": "num:1 num:2 same(0 1) num:3 num:4 less(3 4) same(2 5)",
		"*a + *b": "read:a read:b add(0 1)", "&a + &mut b": "lend:a mut:b add(0 1)", "clone a == input": "clone:a input same(0 1)",
		"f(1) + g(2)": "num:1 call:f(0) num:2 call:g(2) add(1 3)", "f(1) < 2": "num:1 call:f(0) num:2 less(1 2)",
	}
}

func TestReadOfEachValue(t *testing.T) {
	for text, want := range valuesTold() {
		p := mustRead(t, "fn m() { print "+text+"; }")
		n := len(p.Nodes)
		if told := nodesTold(p.Nodes[:n-2]); told != want || nodesTold(p.Nodes[n-2:]) != "print("+strconv.Itoa(n-3)+") block("+strconv.Itoa(n-2)+")" {
			t.Errorf("the value %s is read as %s; want %s", text, nodesTold(p.Nodes), want)
		}
	}
}

func TestReadOfValuesInEachPlace(t *testing.T) {
	for text := range valuesTold() {
		for _, around := range []string{
			"fn m() { let x = V; }", "fn m() { x = V; }", "fn m() { *x = V; }", "fn m() { if V { } else { } }", "fn m() { while V { } }",
			"fn m() { print V; }", "fn m() { do f(V); }", "fn m() { do f(1, V); }", "fn m() { do f(V, V, V); }", "fn m() -> int { ret V; }", "fn m() -> box { print V; ret V; }",
			"fn m() { print (V); }", "fn m() { print new (V); }", "fn m() { print (V) + (V); }", "fn m() { print V + V; }", "fn m() { while 1 { if V { print V; } else { print V; } } }",
			"fn m() { print V V; }", "fn m() { print V; V; }", "fn m() { V; }", "fn m() { V = 1; }", "fn m() { do V; }", "fn m() { do (V); }", "fn m() { let V = 1; }", "fn m() { *V = 1; }",
		} {
			readsByRule(t, strings.ReplaceAll(around, "V", text))
		}
	}
}

func TestReadOfEachStatement(t *testing.T) {
	for text, want := range map[string]string{
		"":                       "block",
		"let a = 1;":             "num:1 let:a(0) block(1)",
		"a = 1;":                 "num:1 set:a(0) block(1)",
		"*a = 1;":                "num:1 store:a(0) block(1)",
		"* a=1 ;":                "num:1 store:a(0) block(1)",
		"print 1;":               "num:1 print(0) block(1)",
		"do f();":                "call:f do(0) block(1)",
		"do f(1, a);":            "num:1 var:a call:f(0 1) do(2) block(3)",
		"do (f());":              "call:f do(0) block(1)",
		"do (f(1));":             "num:1 call:f(0) do(1) block(2)",
		"do ((f()));":            "call:f do(0) block(1)",
		"while 1 { }":            "num:1 block while(0 1) block(2)",
		"while a { print 1; }":   "var:a num:1 print(1) block(2) while(0 3) block(4)",
		"if 1 { } else { }":      "num:1 block block if(0 1 2) block(3)",
		"if a {print 1;}else{}":  "var:a num:1 print(1) block(2) block if(0 3 4) block(5)",
		"if a {}else{print 1;}":  "var:a block num:1 print(2) block(3) if(0 1 4) block(5)",
		"let a = 1; print a;":    "num:1 let:a(0) var:a print(2) block(1 3)",
		"if a < 1 {} else {}":    "var:a num:1 less(0 1) block block if(2 3 4) block(5)",
		"while (1) {}":           "num:1 block while(0 1) block(2)",
		"a = 1 == 2;":            "num:1 num:2 same(0 1) set:a(2) block(3)",
		"*a = *a + 1;":           "read:a num:1 add(0 1) store:a(2) block(3)",
		"let a = new 1;":         "num:1 new(0) let:a(1) block(2)",
		"while 1 { while 2 {} }": "num:1 num:2 block while(1 2) block(3) while(0 4) block(5)",
		"if 1 { if 2 { a = 3; } else { } } else { *a = 4; }": "num:1 num:2 num:3 set:a(2) block(3) block if(1 4 5) block(6) num:4 store:a(8) block(9) if(0 7 10) block(11)",
		"if 1 {} else {} while 2 {} print 3;":                "num:1 block block if(0 1 2) num:2 block while(4 5) num:3 print(7) block(3 6 8)",
	} {
		p := mustRead(t, "fn m() {"+text+"}")
		if told := nodesTold(p.Nodes); told != want || fnTold(p.Fns[0]) != "m():0 body "+strconv.Itoa(len(p.Nodes)-1)+" ret -1" {
			t.Errorf("the block {%s} is read as %s; want %s", text, programTold(p), want)
		}
		readsByRule(t, "fn m() {"+text+"}")
	}
}

func TestReadOfFunctions(t *testing.T) {
	for text, want := range map[string]string{
		"fn f() {}":                                    "block; f():0 body 0 ret -1",
		"fn f(){}fn g(){}":                             "block block; f():0 body 0 ret -1; g():0 body 1 ret -1",
		"fn f(a: int) {}":                              "block; f(a:1):0 body 0 ret -1",
		"fn f(a: box) {}":                              "block; f(a:2):0 body 0 ret -1",
		"fn f(a: &box) {}":                             "block; f(a:3):0 body 0 ret -1",
		"fn f(a: & box) {}":                            "block; f(a:3):0 body 0 ret -1",
		"fn f(a: &mut box) {}":                         "block; f(a:4):0 body 0 ret -1",
		"fn f(a: & mut box) {}":                        "block; f(a:4):0 body 0 ret -1",
		"fn f(a: int, b: &mut box) {}":                 "block; f(a:1 b:4):0 body 0 ret -1",
		"fn f(a:&box,b:box,c:int){}":                   "block; f(a:3 b:2 c:1):0 body 0 ret -1",
		"fn f(a: int, a: box) {}":                      "block; f(a:1 a:2):0 body 0 ret -1",
		"fn f(f: int) {}":                              "block; f(f:1):0 body 0 ret -1",
		"fn f() -> int { ret 1; }":                     "block num:1; f():1 body 0 ret 1",
		"fn f() -> box { ret new 1; }":                 "block num:1 new(1); f():2 body 0 ret 2",
		"fn f() -> int { print 2; ret 1; }":            "num:2 print(0) block(1) num:1; f():1 body 2 ret 3",
		"fn f(a: int) -> int { ret a + 1 < 2; }":       "block var:a num:1 add(1 2) num:2 less(3 4); f(a:1):1 body 0 ret 5",
		"fn f() -> int { ret f(); }":                   "block call:f; f():1 body 0 ret 1",
		"fn f() -> int { while 1 {} ret (2); }":        "num:1 block while(0 1) block(2) num:2; f():1 body 3 ret 4",
		"fn f()->int{ret 1;}fn g(){do f();}":           "block num:1 call:f do(2) block(3); f():1 body 0 ret 1; g():0 body 4 ret -1",
		"fn f()->int{ret 1;}fn g()->box{a=1;ret a;}":   "block num:1 num:1 set:a(2) block(3) var:a; f():1 body 0 ret 1; g():2 body 4 ret 5",
		"fn g() { do f(); } fn f() {}":                 "call:f do(0) block(1) block; g():0 body 2 ret -1; f():0 body 3 ret -1",
		"fn abcdefgh(x1y2z3w4: int) { print nope; }":   "var:nope print(0) block(1); abcdefgh(x1y2z3w4:1):0 body 2 ret -1",
		"fn f() { if 1 {} else {} } fn g() {let a=1;}": "num:1 block block if(0 1 2) block(3) num:1 let:a(5) block(6); f():0 body 4 ret -1; g():0 body 7 ret -1",
	} {
		readsTold(t, text, want)
		readsByRule(t, text)
	}
}

// everyKindText is everyKind in words.
const everyKindText = `fn one(b: &box, n: int, m: &mut box) -> int {
  ret *b + n;
}
fn two(b: box) -> box {
  let c = new 0;
  c = clone b;
  *c = input;
  do one(&c, 2, &mut c);
  ret c;
}
fn main() {
  while 1 < 1000000000 {
    print 7;
    print 7;
  }
  if two() == 3 {
  } else {
    print 7;
  }
}
`

func TestReadOfEachKind(t *testing.T) {
	reads(t, everyKindText, everyKind())
	packed, ok := impl.Packed(mustRead(t, everyKindText))
	if !ok || !samePrograms(packed, everyKind()) {
		t.Error("what is read is not packed already")
	}
}

func TestReadWithOtherBlanks(t *testing.T) {
	signs := mustSigns(t, everyKindText)
	d := dice(2)
	for _, between := range [][]string{{" "}, {"\n"}, {"  "}, {" \n "}, {"\n\n\n"}, {" ", "\n", "   ", "\n \n"}} {
		for range 20 {
			text := between[d.below(len(between))]
			for _, s := range signs {
				text += impl.SignText([]impl.Sign{s}) + between[d.below(len(between))]
			}
			reads(t, text, everyKind())
		}
	}
	// As little as parts them: blanks between words and numbers alone.
	dense := ""
	for k, s := range signs {
		if k > 0 && s.Kind != impl.SgMark && signs[k-1].Kind != impl.SgMark {
			dense += " "
		}
		dense += impl.SignText([]impl.Sign{s})
	}
	reads(t, dense, everyKind())
	for _, wrong := range []string{"\t", "\r", "\r\n", "\x00", "\v", "\f", "\u00a0", "\u3000", "#", "//", "/* */", "\ufeff"} {
		misreads(t, strings.ReplaceAll(everyKindText, "\n", wrong))
		misreads(t, everyKindText+wrong)
		misreads(t, wrong+everyKindText)
		misreads(t, strings.Replace(everyKindText, " ", wrong, 1))
	}
}

func TestReadByParams(t *testing.T) {
	for n := range 7 {
		var params []string
		for k := range n {
			params = append(params, "p"+strconv.Itoa(k)+": "+[]string{"int", "box", "&box", "&mut box"}[k%4])
		}
		list := strings.Join(params, ", ")
		readsIf(t, n <= 3, "fn f("+list+") {}")
		readsIf(t, n <= 3, "fn g() {} fn f("+list+") -> int { ret 1; }")
		misreads(t, "fn f("+list+",) {}")
		misreads(t, "fn f(,"+list+") {}")
		misreads(t, "fn f("+list+" {}")
		misreads(t, "fn f "+list+") {}")
		if n > 1 {
			misreads(t, "fn f("+strings.Join(params, " ")+") {}")
			misreads(t, "fn f("+strings.Join(params, ",,")+") {}")
			misreads(t, "fn f("+strings.Join(params, ";")+") {}")
		}
	}
	for _, param := range []string{"a", "a:", ": int", "a int", "int", "a: a", "a: 1", "a: mut", "a: fn", "a: new", "1: int", "int: int", "mut: int", "ret: int", "mut a: int", "&a: int", "*a: int",
		"a: &int", "a: &mut int", "a: mut box", "a: &", "a: &mut", "a: box mut", "a: &box mut", "a: &&box", "a: & mut & box", "a: &mut mut box", "a: *box", "a: int int", "a: box box", "a: int box", "a: (int)", "a: : int", "a a: int", "a: ints", "a: boxes", "abcdefghi: int"} {
		misreads(t, "fn f("+param+") {}")
		misreads(t, "fn f(b: int, "+param+") {}")
		misreads(t, "fn f("+param+", b: int) {}")
	}
}

func TestReadByResAndRet(t *testing.T) {
	for _, res := range []string{"", "-> int", "-> box", "-> &box", "-> &mut box", "->", "-> a", "-> 1", "-> mut box", "-> int int", "-> int -> int", "int", ": int", "- > int", "-> fn"} {
		for _, ret := range []string{"", "ret 1;", "print 2; ret 1;", "ret 1", "ret;", "ret", "ret 1; ret 1;", "ret 1; print 2;", "ret ret 1;", "ret 1;;", "ret { 1 };", "ret = 1;", "if 1 { ret 1; } else { }", "if 1 { } else { ret 1; }", "while 1 { ret 1; }", "while 1 { ret 1; } ret 1;", "ret let a = 1;", "ret print 1;"} {
			right := (res == "-> int" || res == "-> box") && (ret == "ret 1;" || ret == "print 2; ret 1;") || res == "" && ret == ""
			readsIf(t, right, "fn f() "+res+" {"+ret+"}")
			readsIf(t, right, "fn g() { } fn f() "+res+" {"+ret+"} fn h() -> box { ret 2; }")
			readsByRule(t, "fn f() "+res+" {"+ret+"}")
		}
	}
}

func TestReadByComparisons(t *testing.T) {
	for text, right := range map[string]bool{
		"1 < 2": true, "1 == 2": true, "1 < 2 < 3": false, "1 == 2 == 3": false, "1 < 2 == 3": false, "1 == 2 < 3": false,
		"(1 < 2) < 3": true, "1 < (2 < 3)": true, "(1 < 2 < 3)": false, "1 + 2 < 3 + 4": true, "1 < 2 + 3 < 4": false, "1 + (2 < 3) < 4": true, "1 < 2 + (3 < 4)": true,
		"f(1 < 2) < 3": true, "f(1 < 2 < 3)": false, "f(1 < 2, 3 < 4)": true, "f(1 < 2, 3 < 4 < 5)": false, "new 1 < 2": true, "new (1 < 2) < 3": true, "new (1 < 2 < 3)": false,
		"1 <": false, "< 1": false, "1 ==": false, "== 1": false, "1 = 2": false, "1 = = 2": false, "1 === 2": false, "1 == = 2": false, "1 <= 2": false, "1 << 2": false, "1 < < 2": false,
		"1 + < 2": false, "1 < + 2": false, "1 +": false, "+ 1": false, "1 + + 2": false, "1 2": false, "a b": false, "1 a": false, "a 1": false, "a & b": false, "a * b": false, "a - b": false, "-1": false, "a (1": false, "a 1)": false,
		"()": false, "(1": false, "1)": false, "((1)": false, "(1))": false, "(1, 2)": false, "{1}": false, "(print 1;)": false,
		"f(": false, "f)": false, "f(1 2)": false, "f(1,)": false, "f(,1)": false, "f(,)": false, "f(1,,2)": false, "f(1;2)": false, "f()()": false, "f(1)(2)": false, "(f)(1)": false, "1()": false, "*f(1)": false, "&f(1)": false, "clone f(1)": false,
		"*": false, "**a": false, "*1": false, "*(a)": false, "* new a": false, "*&a": false, "&": false, "&1": false, "&(a)": false, "&&a": false, "&*a": false, "&mut": false, "&mut 1": false, "&mut mut a": false, "mut a": false, "mut": false, "& new a": false,
		"clone": false, "clone 1": false, "clone (a)": false, "clone clone a": false, "clone *a": false, "clone &a": false, "new": false, "new < 1": false, "new + 1": false, "input 1": false, "input()": false, "input input": false, "input + input": true, "input a": false,
		"": false, ";": false, "fn": false, "let": false, "ret": false, "box": false, "int": false, "do f()": false, "print 1": false, "if": false, "else": false, "while": false,
	} {
		readsIf(t, right, "fn f() { print "+text+"; }")
		readsIf(t, right, "fn f() { let a = "+text+"; }")
		readsIf(t, right, "fn f() -> int { ret "+text+"; }")
		readsIf(t, right, "fn f() { while "+text+" { } }")
	}
}

func TestReadOfDo(t *testing.T) {
	for text, right := range map[string]bool{
		"do f();": true, "do f(1);": true, "do f(1, 2, 3);": true, "do f(g());": true, "do (f());": true, "do ( f ( ) ) ;": true, "do ((f(1)));": true, "do (((f())));": true,
		"do 1;": false, "do a;": false, "do (a);": false, "do *a;": false, "do clone a;": false, "do &a;": false, "do &mut a;": false, "do input;": false, "do new 1;": false, "do new f();": false, "do (new f());": false,
		"do f() + 1;": false, "do f() + g();": false, "do (f() + 1);": false, "do (f()) + 1;": false, "do f() < 1;": false, "do (f() < 1);": false, "do f() == g();": false, "do (1 + f());": false,
		"do;": false, "do ();": false, "do f;": false, "do (f;": false, "do (f();": false, "do f());": false, "do ((f());": false, "do (f()));": false, "do (f)();": false, "do f()": false, "do f(),": false, "do f(), g();": false, "do f(); g();": false, "do do f();": false, "do let a = f();": false, "do { f(); }": false, "do fn();": false, "f();": false, "(f());": false, "do (f(), g());": false,
	} {
		readsIf(t, right, "fn m() { "+text+" }")
		readsIf(t, right, "fn m() { print 1; while 1 { "+text+" } }")
	}
}

func TestReadRefusesWrongStatements(t *testing.T) {
	for _, text := range []string{
		";", "print 1;;", "let a = 1", "let a 1;", "let = 1;", "let a = ;", "let a;", "let 1 = 1;", "let a == 1;", "let a: int = 1;", "let *a = 1;", "let (a) = 1;", "let mut a = 1;", "let a = b = 1;", "let a, b = 1;", "let let a = 1;", "let fn = 1;", "let input = 1;", "let box = 1;",
		"a = 1", "a 1;", "= 1;", "a = ;", "a;", "1 = 1;", "a == 1;", "(a) = 1;", "&a = 1;", "a = a = 1;", "f() = 1;", "new a = 1;", "mut = 1;", "int = 1;", "a: int = 1;", "a -> 1;",
		"* = 1;", "*a 1;", "*a = 1", "*a = ;", "*a;", "**a = 1;", "*1 = 1;", "*(a) = 1;", "*f() = 1;", "*fn = 1;", "*let a = 1;",
		"if 1 {}", "if 1 {} else", "if 1 else {}", "if {} else {}", "if 1 {} {}", "if 1 {} else {} else {}", "if 1 {} else if 2 {} else {}", "if 1 print 2; else print 3;", "if 1; {} else {}", "if (1 {} else {}", "if 1 {} else {};", "if 1 { else {}", "if 1 {} else }", "if let a = 1 {} else {}", "if 1 {} else while 2 {}", "else {}",
		"while 1", "while {}", "while 1 {", "while 1 }", "while 1 {} {}", "while 1 {};", "while 1; {}", "while 1 print 2;", "while 1 {} else {}", "while 1 2 {}", "while (1) {",
		"print", "print;", "print 1", "print 1, 2;", "print (1;", "print print 1;", "print let a = 1;", "print {};", "print \"a\";", "print a b;",
		"{}", "{ print 1; }", "fn g() {}", "1;", "input;", "new 1;", "clone a;", "*a", "int a;", "box;", "mut a = 1;", "-> 1;", ",", ":", "(", ")", "{", "}", "+", "<", "==", "&",
	} {
		misreads(t, "fn m() { "+text+" }")
		misreads(t, "fn m() { print 1; "+text+" }")
		misreads(t, "fn m() { "+text+" print 1; }")
		misreads(t, "fn m() { while 1 { "+text+" } }")
		misreads(t, "fn m() -> int { "+text+" ret 1; }")
		if text != "fn g() {}" {
			misreads(t, text)
			misreads(t, "fn m() {} "+text)
			misreads(t, text+" fn m() {}")
		}
	}
}

func TestReadRefusesWrongFunctions(t *testing.T) {
	for _, text := range []string{
		"", " ", "\n", "fn", "f", "fn f", "fn f(", "fn f()", "fn f() {", "fn f() }", "fn f( {}", "fn f) {}", "fn f {}", "fn () {}", "f() {}", "fn f(); {}", "fn f() {};", "fn f() {}}", "fn f() {{}", "fn f() {{}}", "fn f() {} {}", "fn f() () {}", "fn fn f() {}", "fn f g() {}", "fn f.g() {}", "fn 1() {}", "fn 1f() {}", "fn F() {}", "fn (f)() {}", "fn *f() {}", "fn abcdefghi() {}",
		"fn f() -> {}", "fn f() -> int {}", "fn f() -> int { print 1; }", "fn f() { ret 1; }", "fn f() -> int ret 1;", "fn f() -> int { 1 }", "fn f() -> int { ret 1; } }", "let a = 1;", "print 1;", "ret 1;", "fn f() {} print 1;", "fn f() {} f", "fn f() {} fn", "fn f() {} ;", "fn f() {} 1", "fn f() {} ret 1;",
		"fn f() {} fn f() {}", "fn f() {} fn g() {} fn f() {}", "fn f(a: int) {} fn f() -> int { ret 1; }",
	} {
		misreads(t, text)
		if strings.TrimSpace(text) != "" {
			misreads(t, "fn ok() {} "+text)
			misreads(t, text+" fn ok() {}")
		}
	}
	for _, key := range keyWordTexts() {
		for _, text := range []string{"fn K() {}", "fn f(K: int) {}", "fn f() { let K = 1; }", "fn f() { K = 1; }", "fn f() { *K = 1; }", "fn f() { print *K; }", "fn f() { print clone K; }", "fn f() { print &K; }", "fn f() { print &mut K; }", "fn f() { do K(); }", "fn f() { print K(); }", "fn f() { print K(1); }"} {
			// new (1) is no call, but a value all the same.
			readsIf(t, key == "new" && text == "fn f() { print K(1); }", strings.ReplaceAll(text, "K", key))
			readsIf(t, true, strings.ReplaceAll(text, "K", key+"1"))
		}
		readsIf(t, key == "input", "fn f() { print "+key+"; }")
	}
}

func TestReadRefusesWhatIsNoSign(t *testing.T) {
	for _, text := range []string{"1000000001", "00000000001", "10000000000", "99999999999999999999", "abcdefghi", "A", "a_b", "é", "\"a\"", "'", "1a b", "a\x00", "\xff", "-1", "1.5", "1/1", "a-b", "a>b", "a!", "[1]", "a%1", "a|b", "#", "$", "@", "~", "\\", "^", "`", "?"} {
		misreads(t, "fn f() { print "+text+"; }")
		misreads(t, "fn f() {} "+text)
		misreads(t, text+" fn f() {}")
		misreads(t, text)
	}
	for _, one := range allBytes() {
		if one >= 0x80 || one < ' ' && one != '\n' {
			misreads(t, "fn f() {"+string(byte(one))+"}")
		}
	}
	readsIf(t, true, "fn f() { print 1000000000; }")
	readsIf(t, true, "fn f() { print 999999999; }")
}

func TestReadByNumberOfFns(t *testing.T) {
	for n := range 12 {
		text := ""
		for k := range n {
			text += "fn f" + strconv.Itoa(k) + "() {} "
		}
		readsIf(t, 1 <= n && n <= 8, text)
		text = ""
		for k := range n {
			text += "fn f" + strconv.Itoa(k) + "(a: box) -> int { print a; ret *a; }"
		}
		readsIf(t, 1 <= n && n <= 8, text)
	}
	for a := range 8 {
		for b := range a {
			text := ""
			for k := range 8 {
				name := "f" + strconv.Itoa(k)
				if k == a {
					name = "f" + strconv.Itoa(b)
				}
				text += "fn " + name + "() {}"
			}
			misreads(t, text)
		}
	}
	misreads(t, strings.Repeat("fn f(){}", 375))
}

func TestReadByNumberOfValuesAndStatements(t *testing.T) {
	for n := range 20 {
		values := strings.Join(slices.Repeat([]string{"1"}, n), ", ")
		readsIf(t, n <= 3, "fn m() { do f("+values+"); }")
		readsIf(t, n <= 3, "fn m() { print 1 + new f("+values+"); }")
		readsIf(t, n <= 3, "fn m() -> int { ret f("+values+"); }")
		steps := strings.Repeat("a = 1; ", n)
		readsIf(t, n <= 12, "fn m() {"+steps+"}")
		readsIf(t, n <= 12, "fn m() -> int {"+steps+"ret 1; }")
		readsIf(t, n <= 12, "fn m() { while 1 {"+steps+"} }")
		readsIf(t, n <= 12, "fn m() { if 1 {"+steps+"} else {"+steps+"} }")
		readsIf(t, n <= 12, "fn m() { if 1 {} else {"+steps+"} }")
		readsIf(t, n <= 12, "fn m() {"+strings.Repeat("while 1 {}", n)+"}")
	}
}

// around puts so many of these marks around a text.
func around(n int, open, text, shut string) string {
	return strings.Repeat(open, n) + text + strings.Repeat(shut, n)
}

func TestReadByDepth(t *testing.T) {
	for deep := 3; deep <= 14; deep++ {
		// A block, a statement, and values that are so deep with them.
		below := deep - 3
		for _, value := range []string{
			around(below, "new ", "1", ""), around(below, "f(", "1", ")"), around(below, "f(2, ", "1", ")"), around(below, "(2 + ", "1", ")"), around(below, "", "1", " + 2"), around(below, "(", "1", " + 2)"), around(below, "(2 < ", "1", ")"), around(below, "(", "1", " == 2)"),
		} {
			p, ok := impl.ReadProgram("fn m() { print " + value + "; }")
			if ok != (deep <= 10) || ok && impl.DeepOf(p.Nodes, len(p.Nodes)-1) != deep {
				t.Errorf("ReadProgram of a tree of depth %d = %v: %s", deep, ok, value)
			}
			readsByRule(t, "fn m() { let a = "+value+"; }")
			readsByRule(t, "fn m() { do g("+value+"); }")
			// As a Ret they are two less deep.
			readsIf(t, deep-2 <= 10, "fn m() -> int { ret "+value+"; }")
			readsIf(t, deep <= 10, "fn a() {} fn m() { print 1; print "+value+"; print 2; } fn b() {}")
		}
	}
	for loops := 1; loops <= 16; loops++ {
		// 2 for each loop, and 3 for the innermost statement.
		readsIf(t, 2*loops+3 <= 10, "fn m() {"+around(loops, "while 1 {", "print 1;", "}")+"}")
		readsIf(t, 2*loops+1 <= 10, "fn m() {"+around(loops, "while 1 {", "", "}")+"}")
		readsIf(t, 2*loops+1 <= 10, "fn m() {"+around(loops, "if 1 {", "", "} else {}")+"}")
		readsIf(t, 2*loops+1 <= 10, "fn m() {"+around(loops, "if 1 {} else {", "", "}")+"}")
	}
}

// readsTermsIn reads a term that stands in n terms and blocks, of which so many are blocks.
func readsTermsIn(t *testing.T, n, blocks int, steps map[string]int, open, shut string) {
	t.Helper()
	left := 10 - (2*blocks - 1)
	wide := func(step string) string { return "fn m() {" + around(blocks-1, open, step, shut) + "}" }
	for step, deep := range steps {
		readsIf(t, n <= 12 && deep <= left, wide(strings.Replace(step, "V", around(n-blocks, "(", "1", ")"), 1)))
	}
	call := around(n-blocks, "(", "f()", ")")
	readsIf(t, n <= 12, wide("do "+call+";"))
	readsIf(t, n <= 12, wide("print "+call+";"))
	in, within := around(n-blocks-1, "(", "1", ")"), around(n-blocks-2, "(", "1", ")")
	readsIf(t, n <= 12, wide("do f("+in+");"))
	readsIf(t, n <= 12, wide("do f(2, "+in+");"))
	readsIf(t, n <= 12, wide("do (f("+within+"));"))
	readsIf(t, n <= 12, wide("print f("+in+");"))
	readsIf(t, n <= 12, wide("print new "+in+";"))
	readsIf(t, n <= 12, wide("print (new "+within+");"))
	readsIf(t, n <= 12, wide("print "+around(n-blocks-1, "(", "new 1", ")")+";"))
	readsIf(t, n <= 12, wide("print "+around(n-blocks-1, "(", "f(1)", ")")+";"))
}

func TestReadByTermsAroundTerms(t *testing.T) {
	// Each with the depth that it has below its block.
	steps := map[string]int{
		"print V;": 2, "let a = V;": 2, "a = V;": 2, "*a = V;": 2, "while V {}": 2, "if V {} else {}": 2, "if 2 { print 3; } else { } print V;": 4,
		"print 2 + V;": 3, "print V + 2;": 3, "print 2 < V;": 3, "print V == 2;": 3, "print 2 + V < 3;": 4, "print V + 2 + 3;": 4,
	}
	for n := 6; n <= 20; n++ {
		for blocks := 1; blocks <= 4; blocks++ {
			readsTermsIn(t, n, blocks, steps, "while 2 {", "}")
			readsTermsIn(t, n, blocks, steps, "if 2 {", "} else {}")
			readsTermsIn(t, n, blocks, steps, "if 2 {} else {", "}")
		}
		readsIf(t, n <= 12, "fn m() -> int { ret "+around(n-1, "(", "1", ")")+"; }")
		readsIf(t, n <= 12, "fn m() -> int { print ((1)); ret 2 + "+around(n-1, "(", "a", ")")+"; }")
		readsIf(t, n <= 12, "fn m() -> int { ret new "+around(n-2, "(", "*a", ")")+"; }")
		mixed := around(n-5, "(", "input", ")")
		readsIf(t, n <= 12, "fn m() { print new f(new f("+mixed+") + 1); }")
		readsIf(t, n <= 12, "fn m() -> int { ret f(1, new new f("+mixed+", 1)); }")
	}
	// What stands beside is not around.
	readsIf(t, true, "fn m() { print "+around(11, "(", "1", ")")+" + "+around(11, "(", "2", ")")+" < "+around(11, "(", "3", ")")+"; while "+around(11, "(", "1", ")")+" { print "+around(10, "(", "1", ")")+"; } print "+around(11, "(", "1", ")")+"; }")
	readsIf(t, true, "fn m() { do f("+around(10, "(", "1", ")")+", "+around(10, "(", "2", ")")+", "+around(10, "(", "3", ")")+"); }")
}

// A program with a block in 11 is too deep as it is; it is refused either way, and soon.
func TestReadOfManyBlocks(t *testing.T) {
	for _, n := range []int{5, 10, 11, 12, 13, 100, 250} {
		for _, inner := range []string{"", "print 1;", "do f();", "ret 1;"} {
			misreads(t, "fn m() {"+around(n, "while 1{", inner, "}")+"}")
			misreads(t, "fn m() {"+around(n, "if 1{", inner, "}else{}")+"}")
			misreads(t, "fn m() {"+around(n, "{", inner, "}")+"}")
		}
	}
	for _, endless := range []string{"(", "new ", "f(", "while 1{", "if 1{", "{", "1+", "1+(", "-", "fn ", "fn f(){", "fn f(){}", "print ", "let ", "*", "&", "a,", "f(1,", "}", ")", ";", "ret ", "1<", "a=", "do ", "do("} {
		for _, ahead := range []string{"", "fn m(){", "fn m(){print ", "fn m()->int{ret ", "fn m(", "fn m(){do f("} {
			long := ahead + strings.Repeat(endless, 100000)
			misreads(t, long[:3000])
			misreads(t, long[:3001])
			misreads(t, long)
		}
	}
}

func TestReadByNumberOfNodes(t *testing.T) {
	text := func(last string) string {
		return "fn f() {" + strings.Repeat("while 0 {"+strings.Repeat("print 7;", 12)+"}", 11) + "print " + last + ";}"
	}
	reads(t, text("5"), programOf300(0))
	misreads(t, text("new 5"))
	misreads(t, text("5 + 5"))
	misreads(t, text("5")+"fn g() {}")
	for n := 1; n <= 12; n++ {
		// 27 for each of the loops and 1 for their block, 2 for each other statement, and 2 for a block and a Ret.
		loops := strings.Repeat("while 0 {"+strings.Repeat("print 7;", 12)+"}", 10)
		p, ok := impl.ReadProgram("fn f() {" + loops + "} fn g() -> int {" + strings.Repeat("a = 1;", n) + " ret 2; }")
		if want := 271 + 2*n + 2; ok != (want <= impl.MaxNodes) || ok && len(p.Nodes) != want {
			t.Errorf("ReadProgram of %d nodes = %d nodes, %v", want, len(p.Nodes), ok)
		}
	}
	misreads(t, "fn f() {"+strings.Repeat("while 0 {"+strings.Repeat("print 7;", 12)+"}", 12)+"}")
}

func TestReadByLength(t *testing.T) {
	for _, blank := range []string{" ", "\n"} {
		for _, n := range []int{2998, 2999, 3000, 3001, 3002, 4000, 100000} {
			spare := strings.Repeat(blank, n-len(everyKindText))
			for _, text := range []string{everyKindText + spare, spare + everyKindText, strings.Replace(everyKindText, " ", " "+spare, 1), strings.Replace(everyKindText, "7", "7"+spare, 1)} {
				if len(text) != n {
					t.Fatal("the test's text is not as long as it should be")
				}
				if n <= impl.MaxSource {
					reads(t, text, everyKind())
				} else {
					misreads(t, text)
				}
			}
			misreads(t, strings.Repeat(blank, n))
		}
	}
}

// programTexts gives programs in words that have each statement and each value.
func programTexts() []string {
	return []string{
		everyKindText,
		"fn f() {}",
		"fn f() -> int { ret 1; }",
		"fn f(a: int, b: box) -> box { do g(); ret b; } fn g() { }",
		"fn f(a: &box, b: &mut box, c: int) { *b = *a + c; print *b == (1 + 2) + 3; }",
		"fn m() { if 1 < 2 { print f(1, a, &b); } else { while clone a { do (f()); } } let x = new new 3; x = &mut x; }",
		"fn a() -> int { print (1 + (2 < 3)) == 4; ret f((a)) + new (b) + input; }",
	}
}

// otherSigns gives one sign of each text that means something, a name that is there and one that is not, and numbers.
func otherSigns() []impl.Sign {
	list := []impl.Sign{word("a"), word("f"), word("zz"), number(0), number(8)}
	for _, text := range markTexts() {
		list = append(list, mark(text))
	}
	for _, text := range keyWordTexts() {
		list = append(list, word(text))
	}
	return list
}

func TestReadOfTextsWithASignLeftOut(t *testing.T) {
	for _, text := range programTexts() {
		signs := mustSigns(t, text)
		right := 0
		for k := range signs {
			if readsByRule(t, impl.SignText(slices.Delete(slices.Clone(signs), k, k+1))) {
				right++
			}
			for behind := k + 2; behind <= min(k+9, len(signs)); behind++ {
				readsByRule(t, impl.SignText(slices.Delete(slices.Clone(signs), k, behind)))
			}
			readsByRule(t, impl.SignText(signs[:k]))
			readsByRule(t, impl.SignText(signs[k:]))
		}
		if right > len(signs)/4 {
			t.Errorf("%d of %d signs may be left out", right, len(signs))
		}
	}
}

func TestReadOfTextsWithASignTooMany(t *testing.T) {
	for _, text := range programTexts() {
		signs := mustSigns(t, text)
		for k := range len(signs) + 1 {
			for _, more := range otherSigns() {
				readsByRule(t, impl.SignText(slices.Insert(slices.Clone(signs), k, more)))
			}
			if k < len(signs) {
				readsByRule(t, impl.SignText(slices.Insert(slices.Clone(signs), k, signs[k])))
			}
		}
	}
}

func TestReadOfTextsWithOneSignForAnother(t *testing.T) {
	for _, text := range programTexts() {
		signs := mustSigns(t, text)
		for k := range signs {
			for _, other := range otherSigns() {
				turned := slices.Clone(signs)
				turned[k] = other
				readsByRule(t, impl.SignText(turned))
			}
			for at := range k {
				turned := slices.Clone(signs)
				turned[k], turned[at] = signs[at], signs[k]
				if k-at < 12 {
					readsByRule(t, impl.SignText(turned))
				}
			}
		}
	}
}

// Each sign that the document tells is needed: without it the text is no program, or another one.
func TestReadNeedsEachSign(t *testing.T) {
	signs := mustSigns(t, everyKindText)
	for k := range signs {
		if got, ok := impl.ReadProgram(impl.SignText(slices.Delete(slices.Clone(signs), k, k+1))); ok && samePrograms(got, everyKind()) {
			t.Errorf("the sign %d, %v, may be left out", k, signs[k])
		}
	}
}

// A scribe makes up a program: it writes its words, and puts its nodes in the order in which they end.
type scribe struct {
	planter
	dice
	text strings.Builder
	// wrong is how seldom a sign is left out, written twice, or another; 0 for never.
	wrong int
}

func (s *scribe) write(signs ...string) {
	for _, one := range signs {
		if s.wrong > 0 && s.below(s.wrong) == 0 {
			others := otherSigns()
			one = []string{"", one + " " + one, impl.SignText(others[s.below(len(others)):][:1])}[s.below(3)]
		}
		s.text.WriteString(one + []string{" ", " ", "  ", "\n", " \n "}[s.below(5)])
	}
}

func (s *scribe) name() string { return []string{"a", "b", "x1", "fns", "abcdefgh"}[s.below(5)] }

func (s *scribe) wrote(kind int, ahead ...string) int {
	name := s.name()
	s.write(append(ahead, name)...)
	return s.put(namedNode(kind, name))
}

// values writes some of them with a comma between; they are so deep at most.
func (s *scribe) values(deep, around int) []int {
	var list []int
	for k := range s.below(4) {
		if k > 0 {
			s.write(",")
		}
		list = append(list, s.value(deep, around))
	}
	return list
}

func (s *scribe) call(deep, around int) int {
	name := s.name()
	s.write(name, "(")
	var kids []int
	if deep > 1 && around < 12 {
		kids = s.values(deep-1, around+1)
	}
	s.write(")")
	return s.put(namedNode(impl.NdCall, name, kids...))
}

func (s *scribe) term(deep, around int) int {
	switch {
	case around < 12 && s.below(5) == 0:
		s.write("(")
		at := s.value(deep, around+1)
		s.write(")")
		return at
	case around < 12 && deep > 1 && s.below(5) == 0:
		s.write("new")
		return s.put(node(impl.NdNew, s.term(deep-1, around+1)))
	case s.below(4) == 0:
		return s.call(deep, around)
	}
	switch s.below(7) {
	case 0:
		return s.wrote(impl.NdVar)
	case 1:
		return s.wrote(impl.NdRead, "*")
	case 2:
		return s.wrote(impl.NdClone, "clone")
	case 3:
		return s.wrote(impl.NdLend, "&")
	case 4:
		return s.wrote(impl.NdMut, "&", "mut")
	case 5:
		s.write("input")
		return s.put(node(impl.NdInput))
	}
	n := []int{0, 1, 7, 300, impl.MaxNumber}[s.below(5)]
	s.write(impl.Decimal(n))
	return s.num(n)
}

func (s *scribe) sum(deep, around int) int {
	more := min(s.below(8)*s.below(2)/2, deep-1)
	at := s.term(deep-more, around)
	for k := range more {
		s.write("+")
		at = s.put(node(impl.NdAdd, at, s.term(deep-more+k, around)))
	}
	return at
}

func (s *scribe) value(deep, around int) int {
	if deep == 1 || s.below(4) > 0 {
		return s.sum(deep, around)
	}
	which := s.below(2)
	at := s.sum(deep-1, around)
	s.write([]string{"<", "=="}[which])
	return s.put(node([]int{impl.NdLess, impl.NdSame}[which], at, s.sum(deep-1, around)))
}

func (s *scribe) hold(kind, deep, around int, ahead ...string) int {
	name := s.name()
	s.write(append(ahead, name, "=")...)
	at := s.value(deep, around)
	s.write(";")
	return s.put(namedNode(kind, name, at))
}

func (s *scribe) step(deep, around int) int {
	switch s.below(9) {
	case 0, 1:
		return s.hold(impl.NdLet, deep-1, around, "let")
	case 2:
		return s.hold(impl.NdSet, deep-1, around)
	case 3:
		return s.hold(impl.NdStore, deep-1, around, "*")
	case 4:
		s.write("if")
		asked := s.value(deep-1, around)
		then := s.block(deep-1, around)
		s.write("else")
		return s.put(node(impl.NdIf, asked, then, s.block(deep-1, around)))
	case 5:
		s.write("while")
		asked := s.value(deep-1, around)
		return s.put(node(impl.NdWhile, asked, s.block(deep-1, around)))
	case 6:
		s.write("do")
		wraps := s.below(3) * s.below(2)
		s.write(slices.Repeat([]string{"("}, wraps)...)
		at := s.call(deep-1, around+wraps)
		s.write(slices.Repeat([]string{")"}, wraps)...)
		s.write(";")
		return s.put(node(impl.NdDo, at))
	}
	s.write("print")
	at := s.value(deep-1, around)
	s.write(";")
	return s.put(node(impl.NdPrint, at))
}

// steps writes what stands in a block, and puts the block.
func (s *scribe) steps(deep, around, most int) int {
	var kids []int
	for deep > 2 && len(kids) < most && s.below(4) > 0 {
		kids = append(kids, s.step(deep-1, around+1))
	}
	return s.planter.block(kids...)
}

func (s *scribe) block(deep, around int) int {
	s.write("{")
	at := s.steps(deep, around, 3)
	s.write("}")
	return at
}

func (s *scribe) function(name string) impl.Fn {
	fn := impl.Fn{Name: name, Ret: -1}
	s.write("fn", name, "(")
	types := [][]string{{}, {"int"}, {"box"}, {"&", "box"}, {"&", "mut", "box"}}
	for k := range s.below(4) {
		param := impl.Param{Name: s.name(), Type: 1 + s.below(4)}
		if k > 0 {
			s.write(",")
		}
		s.write(append([]string{param.Name, ":"}, types[param.Type]...)...)
		fn.Params = append(fn.Params, param)
	}
	s.write(")")
	fn.Res = s.below(3)
	if fn.Res > 0 {
		s.write("->", types[fn.Res][0])
	}
	s.write("{")
	fn.Body = s.steps(10, 0, 12)
	if fn.Res > 0 {
		s.write("ret")
		fn.Ret = s.value(10, 1)
		s.write(";")
	}
	s.write("}")
	return fn
}

func (s *scribe) program() impl.Program {
	var fns []impl.Fn
	for k := range 1 + s.below(4) {
		fns = append(fns, s.function([]string{"f", "g2", "main", "longname"}[k]))
	}
	return impl.Program{Nodes: s.nodes, Fns: fns}
}

func TestReadOfAnyPrograms(t *testing.T) {
	done, most := 0, 0
	for start := range 3000 {
		s := scribe{dice: dice(start)}
		p := s.program()
		text := s.text.String()
		if len(text) > impl.MaxSource || len(p.Nodes) > impl.MaxNodes {
			misreads(t, text)
			continue
		}
		reads(t, text, p)
		if packed, ok := impl.Packed(p); !ok || !samePrograms(packed, p) {
			t.Fatalf("the nodes of %.300s don't stand in the order of Packed", text)
		}
		done, most = done+1, max(most, len(p.Nodes))
	}
	if done < 2000 || most < 150 {
		t.Errorf("%d programs, with at most %d nodes: the test tells little", done, most)
	}
}

func TestReadOfAnyWrongTexts(t *testing.T) {
	right := 0
	for start := range 6000 {
		s := scribe{dice: dice(start), wrong: 60}
		s.program()
		if text := s.text.String(); len(text) < 1500 && readsByRule(t, text) {
			right++
		}
	}
	if right < 300 || right > 5000 {
		t.Errorf("%d of 6000 texts are programs: the test tells little", right)
	}
}

// Rows of a few signs each, all of them, where a part of a program may stand.
func TestReadOfAllShortRows(t *testing.T) {
	for _, where := range []struct {
		ahead, behind string
		signs         []string
		most          int
	}{
		{"fn m() { print ", "; }", []string{"a", "1", "(", ")", "+", "<", ",", "*", "&", "new"}, 5},
		{"fn m() { ", " }", []string{"a", "=", "1", ";", "*", "let", "print", "{", "}", "do", "(", ")"}, 4},
		{"fn m() { ", " }", []string{"a = 1;", "if 1", "else", "while a", "{", "}", "ret 1;", "do f(", ");", "print"}, 5},
		{"fn m(", ") { }", []string{"a", ":", "int", "box", "&", "mut", ",", ")"}, 5},
		{"", "", []string{"fn", "f", "g", "(", ")", "{", "}", "-> int", "ret 1;", "() {}"}, 5},
	} {
		for _, list := range rowsOf(where.signs, where.most) {
			text := where.ahead + list + where.behind
			if !strings.Contains(text, "fn") {
				misreads(t, text)
				continue
			}
			readsByRule(t, text)
		}
	}
}

// rowsOf gives all rows of at most so many of these texts, with a blank between.
func rowsOf(texts []string, most int) []string {
	list := []string{""}
	for from, length := 0, 0; length < most; length++ {
		end := len(list)
		for ; from < end; from++ {
			for _, text := range texts {
				list = append(list, strings.TrimSpace(list[from]+" "+text))
			}
		}
	}
	return list
}

func TestReadKeepsNothing(t *testing.T) {
	texts := append(programTexts(), "", "fn f() {", "fn f() { print (1; }", "fn m() {"+around(30, "while 1{", "", "}")+"}")
	var first []string
	for _, text := range texts {
		p, ok := impl.ReadProgram(text)
		first = append(first, programTold(p)+strconv.FormatBool(ok))
	}
	for a, one := range texts {
		for b, other := range texts {
			impl.ReadProgram(one)
			if p, ok := impl.ReadProgram(other); programTold(p)+strconv.FormatBool(ok) != first[b] {
				t.Errorf("ReadProgram(%.60q) is another behind %.60q", other, texts[a])
			}
		}
	}
}

func TestReadAnswersAreNewMemory(t *testing.T) {
	for _, text := range programTexts() {
		given := strings.Clone(text)
		p, q := mustRead(t, given), mustRead(t, given)
		if meet(append(append(spansOf(p), spansOf(q)...), textSpan(given))) {
			t.Errorf("ReadProgram(%.60q) shares memory", text)
		}
		// What is done with one answer is not seen in another.
		for k := range p.Nodes {
			p.Nodes[k] = impl.Node{Kind: 99, Kids: append(p.Nodes[k].Kids, 99)}
		}
		for k := range p.Fns {
			clear(p.Fns[k].Params)
		}
		if again := mustRead(t, given); !samePrograms(again, q) {
			t.Errorf("ReadProgram(%.60q) is another afterwards", text)
		}
	}
}

// sameTreeByRule is SameTree, by what is told of both.
func sameTreeByRule(p impl.Program, a int, q impl.Program, b int) bool {
	return deepByRule(p.Nodes, a) > 0 && deepByRule(q.Nodes, b) > 0 && treeText(p.Nodes, a) == treeText(q.Nodes, b)
}

// sameProgramByRule is SameProgram, by what is told of both.
func sameProgramByRule(p, q impl.Program) bool {
	return slices.EqualFunc(p.Fns, q.Fns, func(f, g impl.Fn) bool {
		rets := f.Ret == -1 && g.Ret == -1 || sameTreeByRule(p, f.Ret, q, g.Ret)
		return f.Name == g.Name && f.Res == g.Res && slices.Equal(f.Params, g.Params) && rets && sameTreeByRule(p, f.Body, q, g.Body)
	})
}

func isSameTree(t *testing.T, want bool, p impl.Program, a int, q impl.Program, b int) {
	t.Helper()
	if impl.SameTree(p, a, q, b) != want || impl.SameTree(q, b, p, a) != want {
		t.Fatalf("SameTree(%.200s, %d, %.200s, %d) = %v, and the other way round %v; want %v", nodesText(p.Nodes), a, nodesText(q.Nodes), b, impl.SameTree(p, a, q, b), impl.SameTree(q, b, p, a), want)
	}
}

func isSameProgram(t *testing.T, want bool, p, q impl.Program) {
	t.Helper()
	if impl.SameProgram(p, q) != want || impl.SameProgram(q, p) != want {
		t.Fatalf("SameProgram(%.200s %v, %.200s %v) = %v, and the other way round %v; want %v", nodesText(p.Nodes), p.Fns, nodesText(q.Nodes), q.Fns, impl.SameProgram(p, q), impl.SameProgram(q, p), want)
	}
}

// nodesText tells nodes of any Kind.
func nodesText(nodes []impl.Node) string {
	var list []string
	for _, n := range nodes {
		list = append(list, strconv.Itoa(n.Kind)+" "+strconv.Itoa(n.Num)+" "+n.Name)
	}
	return strings.Join(list, ", ")
}

// elsewhere gives the same program with its nodes in another order, each behind its Kids, and some that are nobody's between them.
func elsewhere(d *dice, p impl.Program) impl.Program {
	to := make([]int, len(p.Nodes))
	var pl planter
	left := make([]int, 0, len(p.Nodes))
	for k := range p.Nodes {
		left = append(left, k)
	}
	placed := map[int]bool{}
	for len(left) > 0 {
		at := d.below(len(left))
		k := left[at]
		if slices.ContainsFunc(p.Nodes[k].Kids, func(kid int) bool { return !placed[kid] }) {
			continue
		}
		if d.below(5) == 0 {
			pl.num(d.below(9))
		}
		n := p.Nodes[k]
		n.Kids = nil
		for _, kid := range p.Nodes[k].Kids {
			n.Kids = append(n.Kids, to[kid])
		}
		to[k], placed[k] = pl.put(n), true
		left = slices.Delete(left, at, at+1)
	}
	q := impl.Program{Nodes: pl.nodes, Fns: cloneProgram(p).Fns}
	for k, fn := range q.Fns {
		q.Fns[k].Body = to[fn.Body]
		if fn.Ret != -1 {
			q.Fns[k].Ret = to[fn.Ret]
		}
	}
	return q
}

func TestSameProgramWithNodesElsewhere(t *testing.T) {
	d := dice(5)
	for _, text := range append(programTexts(), "fn f() {"+strings.Repeat("print 1;", 12)+"}") {
		p := mustRead(t, text)
		isSameProgram(t, true, p, p)
		isSameProgram(t, true, p, mustRead(t, strings.ReplaceAll(text, " ", "\n")))
		for range 30 {
			q := elsewhere(&d, p)
			isSameProgram(t, true, p, q)
			isSameProgram(t, true, q, elsewhere(&d, p))
			for k, fn := range p.Fns {
				isSameTree(t, true, p, fn.Body, q, q.Fns[k].Body)
			}
		}
	}
}

// A program comes back from its words however they are written, with spare marks around its values too.
func TestSameProgramOfOtherWords(t *testing.T) {
	for text, other := range map[string]string{
		"fn f() { print 1 + 2 + 3; }":                  "fn f() { print ((1 + 2) + (3)); }",
		"fn f() { do g(1); }":                          "fn f(){do((g((1))));}",
		"fn f() -> int { ret a < 1; }":                 "fn f()->int{ret((a)<(01));}",
		"fn f(a: &mut box) { *a = new 1; }":            "fn f ( a : & mut box ) { * a = new(0000000001) ; }",
		"fn f() { if a == b { } else { while 1 {} } }": "fn f() { if (a) == (b) {\n} else {\nwhile (1)\n{ } } }",
	} {
		isSameProgram(t, true, mustRead(t, text), mustRead(t, other))
		if !samePrograms(mustRead(t, text), mustRead(t, other)) {
			t.Errorf("%s and %s are read as other nodes", text, other)
		}
	}
	texts := []string{
		"fn f() {}", "fn g() {}", "fn f(a: int) {}", "fn f(b: int) {}", "fn f(a: box) {}", "fn f(a: &box) {}", "fn f(a: &mut box) {}", "fn f(a: int, b: int) {}", "fn f(b: int, a: int) {}", "fn f() {} fn g() {}", "fn g() {} fn f() {}",
		"fn f() -> int { ret 1; }", "fn f() -> box { ret 1; }", "fn f() -> int { ret 2; }", "fn f() -> int { ret a; }", "fn f() -> int { print 1; ret 1; }",
		"fn f() { print 1; }", "fn f() { print 2; }", "fn f() { print a; }", "fn f() { print b; }", "fn f() { print *a; }", "fn f() { print &a; }", "fn f() { print &mut a; }", "fn f() { print clone a; }", "fn f() { print input; }", "fn f() { print new 1; }", "fn f() { print a(); }", "fn f() { print a(1); }", "fn f() { print a(1, 2); }", "fn f() { print a(2, 1); }",
		"fn f() { print 1 + 2; }", "fn f() { print 2 + 1; }", "fn f() { print 1 < 2; }", "fn f() { print 1 == 2; }", "fn f() { print 1 + 2 + 3; }", "fn f() { print 1 + (2 + 3); }",
		"fn f() { let a = 1; }", "fn f() { a = 1; }", "fn f() { *a = 1; }", "fn f() { let b = 1; }", "fn f() { do a(); }", "fn f() { do a(1); }", "fn f() { print 1; print 1; }", "fn f() { print 1; print 2; }", "fn f() { print 2; print 1; }",
		"fn f() { while 1 {} }", "fn f() { while 1 { print 1; } }", "fn f() { if 1 {} else {} }", "fn f() { if 1 { print 1; } else {} }", "fn f() { if 1 {} else { print 1; } }",
	}
	for a, one := range texts {
		for b, other := range texts {
			isSameProgram(t, a == b, mustRead(t, one), mustRead(t, other))
		}
	}
}

func TestSameTreeOfEachPair(t *testing.T) {
	d := dice(11)
	programs := []impl.Program{everyKind(), elsewhere(&d, everyKind()), {Nodes: doubled(10)}, programOf300(0)}
	programs[3].Nodes = programs[3].Nodes[:60]
	same := 0
	for _, p := range programs {
		for _, q := range programs {
			for a := -1; a <= len(p.Nodes); a++ {
				for b := -1; b <= len(q.Nodes); b++ {
					want := sameTreeByRule(p, a, q, b)
					isSameTree(t, want, p, a, q, b)
					if want {
						same++
					}
				}
			}
		}
	}
	if same < 1000 {
		t.Errorf("%d pairs of nodes are the same: the test tells little", same)
	}
}

func TestSameTreeOfNodesThatDifferOnce(t *testing.T) {
	base := everyKind()
	changedPrograms(func(what string, p impl.Program) {
		for _, k := range []int{0, 3, 9, 14, 16, 17, 20, 24, 30, len(base.Nodes) - 1} {
			isSameTree(t, sameTreeByRule(base, k, p, k), base, k, p, k)
		}
		isSameProgram(t, sameProgramByRule(base, p), base, p)
		isSameProgram(t, sameProgramByRule(p, p), p, p)
	})
}

func TestSameTreeOfAnyNodes(t *testing.T) {
	d := dice(13)
	same := 0
	for range 1500 {
		p, q := impl.Program{Nodes: anyNodes(&d, 1+d.below(20))}, impl.Program{Nodes: anyNodes(&d, 1+d.below(20))}
		for range 40 {
			a, b := d.below(len(p.Nodes)), d.below(len(q.Nodes))
			want := sameTreeByRule(p, a, q, b)
			isSameTree(t, want, p, a, q, b)
			isSameTree(t, sameTreeByRule(p, a, p, a), p, a, p, a)
			if want && len(p.Nodes[a].Kids) > 0 {
				same++
			}
		}
	}
	if same < 50 {
		t.Errorf("%d same trees with Kids: the test tells little", same)
	}
}

// A copy of a part is like it, and what is come to twice is like what is there twice.
func TestSameTreeOfCopies(t *testing.T) {
	d := dice(17)
	for _, p := range []impl.Program{everyKind(), {Nodes: doubled(10)}, mustRead(t, everyKindText), {Nodes: anyNodes(&d, 40)}} {
		for k := range p.Nodes {
			nodes, at := impl.CopyNodes(p, k, everyKind().Nodes)
			if at >= 0 {
				isSameTree(t, true, p, k, impl.Program{Nodes: nodes}, at)
			}
		}
	}
	shared := impl.Program{Nodes: []impl.Node{numNode(1), node(impl.NdPrint, 0), node(impl.NdPrint, 0), node(impl.NdBlock, 1, 2)}}
	apart := impl.Program{Nodes: []impl.Node{numNode(1), numNode(1), node(impl.NdPrint, 1), node(impl.NdPrint, 0), node(impl.NdBlock, 3, 2)}}
	isSameTree(t, true, shared, 3, apart, 4)
}

func TestSameTreeRefusesPlacesThatAreNone(t *testing.T) {
	p := everyKind()
	for _, wrong := range wrongPlaces(len(p.Nodes)) {
		for _, k := range []int{0, 5, len(p.Nodes) - 1, wrong} {
			isSameTree(t, false, p, wrong, p, k)
			isSameTree(t, false, impl.Program{}, wrong, p, k)
		}
		isSameTree(t, false, impl.Program{}, wrong, impl.Program{}, wrong)
	}
	isSameTree(t, false, impl.Program{}, 0, impl.Program{}, 0)
	isSameTree(t, false, impl.Program{}, 0, p, 0)
	// The functions of a program are not looked at.
	isSameTree(t, true, p, 5, impl.Program{Nodes: p.Nodes}, 5)
	isSameTree(t, true, p, 5, impl.Program{Nodes: p.Nodes, Fns: []impl.Fn{{Name: "fn", Body: -5, Ret: 999}}}, 5)
}

func TestSameTreeRefusesNodesWhoseDeepOfIs0(t *testing.T) {
	right := []impl.Node{numNode(1), node(impl.NdNew, 0), node(impl.NdPrint, 1), node(impl.NdBlock, 2)}
	for _, wrong := range []impl.Node{{}, {Kind: 21}, {Kind: -1}, numNode(-1), numNode(impl.MaxNumber + 1), namedNode(impl.NdVar, "fn"), namedNode(impl.NdVar, ""), node(impl.NdNew), node(impl.NdNew, 0), node(impl.NdNew, 9), node(impl.NdDo, 1), node(impl.NdAdd, 0, 0)} {
		for at := range len(right) + 1 {
			// A wrong node at each place; those behind it have no depth, those ahead of it have one.
			nodes := cloneNodes(right[:at])
			nodes = append(nodes, wrong)
			for _, n := range cloneNodes(right[at:]) {
				for k := range n.Kids {
					if n.Kids[k] >= at {
						n.Kids[k]++
					}
				}
				nodes = append(nodes, n)
			}
			p := impl.Program{Nodes: nodes}
			for k := range nodes {
				isSameTree(t, deepByRule(nodes, k) > 0, p, k, p, k)
			}
			for k := range right {
				isSameTree(t, sameTreeByRule(p, k, impl.Program{Nodes: right}, k), p, k, impl.Program{Nodes: right}, k)
			}
		}
	}
	for _, ring := range [][]impl.Node{{node(impl.NdNew, 0)}, {node(impl.NdNew, 1), node(impl.NdNew, 0)}, {node(impl.NdBlock, 1), node(impl.NdPrint, 2), node(impl.NdNew, 2)}} {
		for k := range ring {
			isSameTree(t, false, impl.Program{Nodes: ring}, k, impl.Program{Nodes: ring}, k)
		}
	}
	for deep := 8; deep <= 13; deep++ {
		var pl planter
		at := pl.chain(deep)
		last := pl.num(3)
		p := impl.Program{Nodes: pl.nodes, Fns: []impl.Fn{{Name: "f", Body: at, Ret: -1}}}
		isSameTree(t, deep <= 10, p, at, p, at)
		isSameTree(t, deep <= 10, p, last, p, last)
		isSameTree(t, true, p, 5, p, 5)
		isSameProgram(t, deep <= 10, p, p)
	}
}

func TestSameTreeOfWideGraphs(t *testing.T) {
	// Each statement of each block has the blocks below it: what is come to twice is there twice, and all of it ends.
	var pl planter
	low := pl.num(1)
	for range 3 {
		low = pl.put(namedNode(impl.NdCall, "f", low))
	}
	block := pl.block(pl.prints(12)...)
	for range 3 {
		var steps []int
		for range 12 {
			steps = append(steps, pl.put(node(impl.NdWhile, low, block)))
		}
		block = pl.block(steps...)
	}
	p := impl.Program{Nodes: pl.nodes, Fns: []impl.Fn{{Name: "f", Body: block, Ret: -1}}}
	if impl.DeepOf(p.Nodes, block) == 0 {
		t.Fatal("the graph is too deep")
	}
	isSameProgram(t, true, p, p)
	q := cloneProgram(p)
	q.Nodes[0].Num = 2
	isSameProgram(t, false, p, q)
}

func TestSameProgramOfFunctionsThatDifferOnce(t *testing.T) {
	base := everyKind()
	for what, turn := range map[string]func(p *impl.Program){
		"Name":                func(p *impl.Program) { p.Fns[1].Name = "three" },
		"Name empty":          func(p *impl.Program) { p.Fns[1].Name = "" },
		"Res":                 func(p *impl.Program) { p.Fns[1].Res = impl.TyInt },
		"Res of the last":     func(p *impl.Program) { p.Fns[2].Res = impl.TyMut },
		"a param's Name":      func(p *impl.Program) { p.Fns[0].Params[1].Name = "x" },
		"a param's Type":      func(p *impl.Program) { p.Fns[0].Params[2].Type = impl.TyRef },
		"a param less":        func(p *impl.Program) { p.Fns[0].Params = p.Fns[0].Params[:2] },
		"a param more":        func(p *impl.Program) { p.Fns[2].Params = []impl.Param{{Name: "a", Type: 1}} },
		"no params":           func(p *impl.Program) { p.Fns[1].Params = nil },
		"other order":         func(p *impl.Program) { p.Fns[0].Params[0], p.Fns[0].Params[1] = p.Fns[0].Params[1], p.Fns[0].Params[0] },
		"another Body":        func(p *impl.Program) { p.Fns[0].Body = p.Fns[2].Body },
		"a Body that is none": func(p *impl.Program) { p.Fns[0].Body = -1 },
		"a Body past the end": func(p *impl.Program) { p.Fns[0].Body = len(p.Nodes) },
		"another Ret":         func(p *impl.Program) { p.Fns[0].Ret = p.Fns[1].Ret },
		"no Ret":              func(p *impl.Program) { p.Fns[0].Ret = -1 },
		"a Ret that is none":  func(p *impl.Program) { p.Fns[0].Ret = -2 },
		"a Ret more":          func(p *impl.Program) { p.Fns[2].Ret = p.Fns[1].Ret },
		"a Ret past the end":  func(p *impl.Program) { p.Fns[2].Ret = len(p.Nodes) },
		"no Ret, but -2":      func(p *impl.Program) { p.Fns[2].Ret = -2 },
		"a function less":     func(p *impl.Program) { p.Fns = p.Fns[:2] },
		"no first function":   func(p *impl.Program) { p.Fns = p.Fns[1:] },
		"a function more":     func(p *impl.Program) { p.Fns = append(p.Fns, p.Fns[0]) },
		"functions swapped":   func(p *impl.Program) { p.Fns[0], p.Fns[1] = p.Fns[1], p.Fns[0] },
		"no functions":        func(p *impl.Program) { p.Fns = nil },
		"no nodes":            func(p *impl.Program) { p.Nodes = nil },
	} {
		p := cloneProgram(base)
		turn(&p)
		if impl.SameProgram(base, p) || impl.SameProgram(p, base) {
			t.Errorf("SameProgram = true: %s", what)
		}
	}
}

// Only the functions, their Bodies and their Rets are looked at, as the document says; whether a program is right beyond that is asked by ProgramOk.
func TestSameProgramOfProgramsThatAreNotRight(t *testing.T) {
	base := everyKind()
	for what, turn := range map[string]func(p *impl.Program){
		"no function":            func(p *impl.Program) { p.Fns = nil },
		"nine functions":         func(p *impl.Program) { p.Fns = slices.Repeat(p.Fns, 3) },
		"two of one Name":        func(p *impl.Program) { p.Fns[1].Name = "one" },
		"a Name that is none":    func(p *impl.Program) { p.Fns[1].Name = "no name" },
		"a Res that is none":     func(p *impl.Program) { p.Fns[1].Res = 77 },
		"four params":            func(p *impl.Program) { p.Fns[0].Params = slices.Repeat(p.Fns[0].Params[:1], 4) },
		"a Type that is none":    func(p *impl.Program) { p.Fns[0].Params[0].Type = -1 },
		"a Body that is a value": func(p *impl.Program) { p.Fns[2].Body = 1 },
		"a Ret that is a block":  func(p *impl.Program) { p.Fns[1].Ret = 0 },
		"a Ret and no Res":       func(p *impl.Program) { p.Fns[1].Res = 0 },
		"a Res and no Ret":       func(p *impl.Program) { p.Fns[1].Ret = -1 },
		"one Body of two":        func(p *impl.Program) { p.Fns[1].Body = p.Fns[2].Body },
		"a node of nobody":       func(p *impl.Program) { p.Nodes = append(p.Nodes, numNode(1)) },
		"a wrong node behind":    func(p *impl.Program) { p.Nodes = append(p.Nodes, impl.Node{Kind: 99}) },
		"many nodes":             func(p *impl.Program) { p.Nodes = append(p.Nodes, slices.Repeat([]impl.Node{numNode(1)}, 400)...) },
	} {
		p := cloneProgram(base)
		turn(&p)
		if impl.ProgramOk(p) {
			t.Errorf("the program is right: %s", what)
		}
		if !impl.SameProgram(p, p) || !impl.SameProgram(p, cloneProgram(p)) {
			t.Errorf("SameProgram = false of a program and itself: %s", what)
		}
	}
	// A node that is not right takes the depth of all behind it.
	for k := range base.Nodes {
		p := cloneProgram(base)
		p.Nodes[k].Kind = 0
		isSameProgram(t, false, p, p)
		isSameProgram(t, false, p, base)
	}
	isSameProgram(t, true, impl.Program{}, impl.Program{})
	isSameProgram(t, true, impl.Program{}, impl.Program{Nodes: []impl.Node{{Kind: 99}}})
	isSameProgram(t, false, impl.Program{}, base)
	for _, wrong := range wrongPlaces(len(base.Nodes)) {
		p := cloneProgram(base)
		p.Fns[0].Body = wrong
		isSameProgram(t, false, p, p)
		p = cloneProgram(base)
		p.Fns[2].Ret = wrong
		isSameProgram(t, wrong == -1, p, p)
	}
}

func TestReadArgumentsStayAsTheyAre(t *testing.T) {
	wrong := everyKind()
	wrong.Nodes[9].Num = 1
	for _, base := range []impl.Program{everyKind(), wrong} {
		p, q := roomyProgram(base), roomyProgram(everyKind())
		for k := -1; k <= len(p.Nodes); k++ {
			impl.SameTree(p, k, q, k)
			impl.SameTree(q, k, p, k)
		}
		impl.SameProgram(p, q)
		impl.SameProgram(q, p)
		if !untouched(p.Nodes, base.Nodes) || !untouched(q.Nodes, everyKind().Nodes) || !samePrograms(p, base) || !samePrograms(q, everyKind()) {
			t.Error("a program that was handed in is changed")
		}
		for _, one := range []impl.Program{p, q} {
			if one.Fns[:len(one.Fns)+1][len(one.Fns)].Res != -77 || one.Fns[0].Params[:4][3].Type != -77 {
				t.Error("the room behind a program that was handed in is changed")
			}
		}
	}
}
