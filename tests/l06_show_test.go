package tests

import (
	"math"
	"slices"
	"strconv"
	"strings"
	"testing"

	"loop.example/g00423/impl"
)

// valueSigns gives the signs of a value as texts; marks are put around it where it is a Kid of what wants them.
func valueSigns(nodes []impl.Node, k int, marked bool) []string {
	n := nodes[k]
	switch n.Kind {
	case impl.NdNum:
		return []string{strconv.Itoa(n.Num)}
	case impl.NdInput:
		return []string{"input"}
	case impl.NdNew:
		return append([]string{"new"}, valueSigns(nodes, n.Kids[0], true)...)
	case impl.NdCall:
		signs := []string{n.Name, "("}
		for at, kid := range n.Kids {
			if at > 0 {
				signs = append(signs, ",")
			}
			signs = append(signs, valueSigns(nodes, kid, false)...)
		}
		return append(signs, ")")
	}
	if op, is := map[int]string{impl.NdAdd: "+", impl.NdLess: "<", impl.NdSame: "=="}[n.Kind]; is {
		signs := slices.Concat(valueSigns(nodes, n.Kids[0], true), []string{op}, valueSigns(nodes, n.Kids[1], true))
		if marked {
			signs = slices.Concat([]string{"("}, signs, []string{")"})
		}
		return signs
	}
	ahead := map[int][]string{impl.NdVar: {}, impl.NdRead: {"*"}, impl.NdClone: {"clone"}, impl.NdLend: {"&"}, impl.NdMut: {"&", "mut"}}[n.Kind]
	return append(slices.Clone(ahead), n.Name)
}

func blockSigns(nodes []impl.Node, k int) []string {
	var signs []string
	for _, step := range nodes[k].Kids {
		signs = append(signs, stepSigns(nodes, step)...)
	}
	return signs
}

func stepSigns(nodes []impl.Node, k int) []string {
	n := nodes[k]
	value := valueSigns(nodes, n.Kids[0], false)
	switch n.Kind {
	case impl.NdLet:
		return slices.Concat([]string{"let", n.Name, "="}, value, []string{";"})
	case impl.NdSet:
		return slices.Concat([]string{n.Name, "="}, value, []string{";"})
	case impl.NdStore:
		return slices.Concat([]string{"*", n.Name, "="}, value, []string{";"})
	case impl.NdPrint:
		return slices.Concat([]string{"print"}, value, []string{";"})
	case impl.NdDo:
		return slices.Concat([]string{"do"}, value, []string{";"})
	case impl.NdWhile:
		return slices.Concat([]string{"while"}, value, []string{"{"}, blockSigns(nodes, n.Kids[1]), []string{"}"})
	}
	return slices.Concat([]string{"if"}, value, []string{"{"}, blockSigns(nodes, n.Kids[1]), []string{"}", "else", "{"}, blockSigns(nodes, n.Kids[2]), []string{"}"})
}

func fnSigns(nodes []impl.Node, fn impl.Fn) []string {
	types := [][]string{{}, {"int"}, {"box"}, {"&", "box"}, {"&", "mut", "box"}}
	signs := []string{"fn", fn.Name, "("}
	for k, param := range fn.Params {
		if k > 0 {
			signs = append(signs, ",")
		}
		signs = append(append(signs, param.Name, ":"), types[param.Type]...)
	}
	signs = append(signs, ")")
	if fn.Res != 0 {
		signs = append(append(signs, "->"), types[fn.Res]...)
	}
	signs = slices.Concat(signs, []string{"{"}, blockSigns(nodes, fn.Body))
	if fn.Ret != -1 {
		signs = slices.Concat(signs, []string{"ret"}, valueSigns(nodes, fn.Ret, false), []string{";"})
	}
	return append(signs, "}")
}

// blankBetween tells by two signs of one line, side by side, whether a blank parts them.
func blankBetween(left, right string) bool {
	switch {
	case left == "*" || left == "&" || left == "(":
		return false
	case strings.Contains("),;:", right):
		return false
	case right == "(":
		// A call; any other bracket has a word of the language, a comma or a mark between values ahead of it.
		return !impl.NameOk(left)
	}
	return true
}

// laidOut puts signs into lines: a line ends behind a brace and a semicolon, and begins with blanks for each block around it.
func laidOut(signs []string, in int) string {
	var text strings.Builder
	in = max(0, min(in, 20))
	fresh := true
	for k, one := range signs {
		if one == "}" {
			in--
		}
		if fresh {
			text.WriteString(strings.Repeat(" ", 2*min(in, 20)))
		} else if blankBetween(signs[k-1], one) {
			text.WriteByte(' ')
		}
		text.WriteString(one)
		if one == "{" {
			in++
		}
		more := k+1 < len(signs) && signs[k+1] == "else"
		fresh = one == "{" || one == ";" || one == "}" && !more
		if fresh {
			text.WriteByte('\n')
		}
	}
	return text.String()
}

func isValueKind(kind int) bool { return strings.IndexByte("vc", kidLetter(kind)) >= 0 }

// valueShown is ShowValue, by its signs.
func valueShown(p impl.Program, k int) string {
	if impl.DeepOf(p.Nodes, k) == 0 || !isValueKind(p.Nodes[k].Kind) {
		return ""
	}
	return laidOut(valueSigns(p.Nodes, k, false), 0)
}

// stepShown is ShowStep, by its signs.
func stepShown(p impl.Program, k, in int) string {
	if impl.DeepOf(p.Nodes, k) == 0 || kidLetter(p.Nodes[k].Kind) != 's' {
		return ""
	}
	return laidOut(stepSigns(p.Nodes, k), in)
}

// programShown is ShowProgram, by its signs.
func programShown(p impl.Program) (string, bool) {
	if !impl.ProgramOk(p) {
		return "", false
	}
	var signs []string
	for _, fn := range p.Fns {
		signs = append(signs, fnSigns(p.Nodes, fn)...)
	}
	if text := laidOut(signs, 0); len(text) <= 3000 {
		return text, true
	}
	return "", false
}

func showsValue(t *testing.T, p impl.Program, k int, want string) {
	t.Helper()
	if got := impl.ShowValue(p, k); got != want {
		t.Fatalf("ShowValue(%.300s, %d) = %.300q; want %.300q", nodesText(p.Nodes), k, got, want)
	}
}

func showsStep(t *testing.T, p impl.Program, k, in int, want string) {
	t.Helper()
	if got := impl.ShowStep(p, k, in); got != want {
		t.Fatalf("ShowStep(%.300s, %d, %d) = %.400q; want %.400q", nodesText(p.Nodes), k, in, got, want)
	}
}

func showsProgram(t *testing.T, p impl.Program, want string) {
	t.Helper()
	if got, ok := impl.ShowProgram(p); !ok || got != want {
		t.Fatalf("ShowProgram(%.300s) = %.400q, %v; want %.400q, true", nodesText(p.Nodes), got, ok, want)
	}
}

func refusesProgram(t *testing.T, p impl.Program) {
	t.Helper()
	if got, ok := impl.ShowProgram(p); ok || got != "" {
		t.Fatalf("ShowProgram(%.300s, %v) = %.300q, %v; want nothing, false", nodesText(p.Nodes), p.Fns, got, ok)
	}
}

// showsNothing asks for a node that is neither a right value nor a right statement.
func showsNothing(t *testing.T, p impl.Program, k int) {
	t.Helper()
	showsValue(t, p, k, "")
	for _, in := range []int{0, 1, -1, 20, 21} {
		showsStep(t, p, k, in, "")
	}
}

// showsAll holds each node of a program, and the places beside them, against the rules.
func showsAll(t *testing.T, p impl.Program) {
	t.Helper()
	for k := -1; k <= len(p.Nodes); k++ {
		showsValue(t, p, k, valueShown(p, k))
		in := k%25 - 2
		showsStep(t, p, k, in, stepShown(p, k, in))
	}
}

// comesBack shows a program, reads what is shown, and shows that again.
func comesBack(t *testing.T, p impl.Program) string {
	t.Helper()
	text, ok := impl.ShowProgram(p)
	if !ok {
		t.Fatalf("ShowProgram(%.300s) = false", programTold(p))
	}
	q, ok := impl.ReadProgram(text)
	if !ok || !impl.SameProgram(p, q) {
		t.Fatalf("%.400q is read as %.300s, %v; shown of %.300s", text, programTold(q), ok, programTold(p))
	}
	if packed, _ := impl.Packed(p); !samePrograms(packed, q) {
		t.Fatalf("%.400q is read as nodes in another order than that of Packed", text)
	}
	showsProgram(t, q, text)
	return text
}

// partsComeBack reads the text of each value and each statement of a program.
func partsComeBack(t *testing.T, p impl.Program) {
	t.Helper()
	for k, n := range p.Nodes {
		switch kidLetter(n.Kind) {
		case 'v', 'c':
			text := impl.ShowValue(p, k)
			q := mustRead(t, "fn m() -> int { ret "+text+"; }")
			isSameTree(t, true, p, k, q, q.Fns[0].Ret)
			showsValue(t, q, q.Fns[0].Ret, text)
		case 's':
			if impl.DeepOf(p.Nodes, k) == impl.MaxDeep {
				continue
			}
			text := impl.ShowStep(p, k, 1)
			q := mustRead(t, "fn m() {"+text+"}")
			step := q.Nodes[q.Fns[0].Body].Kids
			if len(step) != 1 {
				t.Fatalf("%.300q is read as %d statements", text, len(step))
			}
			isSameTree(t, true, p, k, q, step[0])
			showsStep(t, q, step[0], 1, text)
		}
	}
}

// overValue gives a program whose last node has these as its Kids, and that node's place.
func overValue(top impl.Node, kids ...impl.Node) (impl.Program, int) {
	nodes := cloneNodes(kids)
	for k := range kids {
		top.Kids = append(top.Kids, k)
	}
	return impl.Program{Nodes: append(nodes, top)}, len(kids)
}

func TestShowValueOfEachKind(t *testing.T) {
	one, a := numNode(1), namedNode(impl.NdVar, "a")
	for _, each := range []struct {
		want string
		top  impl.Node
		kids []impl.Node
	}{
		{"0", numNode(0), nil},
		{"7", numNode(7), nil},
		{"10", numNode(10), nil},
		{"1000000000", numNode(impl.MaxNumber), nil},
		{"a", a, nil},
		{"abcdefgh", namedNode(impl.NdVar, "abcdefgh"), nil},
		{"x1", namedNode(impl.NdVar, "x1"), nil},
		{"*a", namedNode(impl.NdRead, "a"), nil},
		{"*abcdefgh", namedNode(impl.NdRead, "abcdefgh"), nil},
		{"clone a", namedNode(impl.NdClone, "a"), nil},
		{"&a", namedNode(impl.NdLend, "a"), nil},
		{"&mut a", namedNode(impl.NdMut, "a"), nil},
		{"&mutt", namedNode(impl.NdLend, "mutt"), nil},
		{"&mut mutt", namedNode(impl.NdMut, "mutt"), nil},
		{"input", node(impl.NdInput), nil},
		{"new 1", node(impl.NdNew), []impl.Node{one}},
		{"new a", node(impl.NdNew), []impl.Node{a}},
		{"new *a", node(impl.NdNew), []impl.Node{namedNode(impl.NdRead, "a")}},
		{"new clone a", node(impl.NdNew), []impl.Node{namedNode(impl.NdClone, "a")}},
		{"new &a", node(impl.NdNew), []impl.Node{namedNode(impl.NdLend, "a")}},
		{"new &mut a", node(impl.NdNew), []impl.Node{namedNode(impl.NdMut, "a")}},
		{"new input", node(impl.NdNew), []impl.Node{node(impl.NdInput)}},
		{"new f()", node(impl.NdNew), []impl.Node{namedNode(impl.NdCall, "f")}},
		{"1 + a", node(impl.NdAdd), []impl.Node{one, a}},
		{"1 < a", node(impl.NdLess), []impl.Node{one, a}},
		{"1 == a", node(impl.NdSame), []impl.Node{one, a}},
		{"*a + &b", node(impl.NdAdd), []impl.Node{namedNode(impl.NdRead, "a"), namedNode(impl.NdLend, "b")}},
		{"&mut a < clone b", node(impl.NdLess), []impl.Node{namedNode(impl.NdMut, "a"), namedNode(impl.NdClone, "b")}},
		{"input == f()", node(impl.NdSame), []impl.Node{node(impl.NdInput), namedNode(impl.NdCall, "f")}},
		{"f()", namedNode(impl.NdCall, "f"), nil},
		{"abcdefgh()", namedNode(impl.NdCall, "abcdefgh"), nil},
		{"f(1)", namedNode(impl.NdCall, "f"), []impl.Node{one}},
		{"f(1, a)", namedNode(impl.NdCall, "f"), []impl.Node{one, a}},
		{"f(1, a, input)", namedNode(impl.NdCall, "f"), []impl.Node{one, a, node(impl.NdInput)}},
		{"f(*a, &b, &mut c)", namedNode(impl.NdCall, "f"), []impl.Node{namedNode(impl.NdRead, "a"), namedNode(impl.NdLend, "b"), namedNode(impl.NdMut, "c")}},
		{"f(clone a, g(), 0)", namedNode(impl.NdCall, "f"), []impl.Node{namedNode(impl.NdClone, "a"), namedNode(impl.NdCall, "g"), numNode(0)}},
	} {
		p, k := overValue(each.top, each.kids...)
		showsValue(t, p, k, each.want)
	}
}

// valuesInWords gives values as they are shown, and other words in which they are read.
func valuesInWords() map[string]string {
	return map[string]string{
		"(1 + 2) + 3": "1 + 2 + 3", "1 + (2 + 3)": "1+(2+3)", "((1 + 2) + 3) + 4": "1 + 2 + 3 + 4", "1 + (2 + (3 + 4))": "1 + (2 + (3 + (4)))", "(1 + 2) + (3 + 4)": "1 + 2 + (3 + 4)", "(1 + (2 + 3)) + 4": "1 + (2 + 3) + 4", "1 + ((2 + 3) + 4)": "1 + (2 + 3 + 4)",
		"(1 + 2) < 3": "1 + 2 < 3", "1 < (2 + 3)": "1 < 2 + 3", "(1 + 2) < (3 + 4)": "1 + 2 < 3 + 4", "(1 + 2) == 3": "1 + 2 == 3", "1 == (2 + 3)": "1 == 2 + 3", "(1 + 2) == (3 + 4)": "1 + 2 == 3 + 4", "((1 + 2) + 3) < (4 + (5 + 6))": "1 + 2 + 3 < 4 + (5 + 6)",
		"(1 < 2) + 3": "((1) < 2) + 3", "1 + (2 < 3)": "(1 + (2 < 3))", "(1 == 2) + (3 < 4)": "(1==2)+(3<4)", "(1 < 2) < 3": "(1<2)<3", "1 < (2 == 3)": "1<(2==3)", "(1 == 2) == (3 == 4)": "(1==2)==(3==4)", "((1 < 2) + 3) == 4": "(1 < 2) + 3 == 4", "1 == ((2 < 3) + 4)": "1 == (2 < 3) + 4",
		"new (1 + 2)": "new(1+2)", "new ((1 + 2) + 3)": "new (1 + 2 + 3)", "new (1 + (2 + 3))": "new(1+(2+3))", "new (1 < 2)": "new(1<2)", "new (1 == 2)": "new((1==2))", "new ((1 + 2) < 3)": "new (1 + 2 < 3)", "new (1 == (2 + 3))": "new (1 == 2 + 3)", "new ((1 < 2) + 3)": "new((1<2)+3)", "new (1 + (2 == 3))": "new(1+(2==3))", "new ((1 < 2) == (3 < 4))": "new((1<2)==(3<4))",
		"new new 1": "new (new (1))", "new new (1 + 2)": "new(new(1+2))", "new 1 + 2": "(new 1) + 2", "1 + new 2": "1 + (new 2)", "new 1 < new 2": "(new 1) < (new 2)", "new 1 + new (2 + 3)": "(new (1)) + (new (2 + 3))", "new f(1)": "new (f(1))", "new f(1 + 2)": "new(f((1+2)))", "new f(new (1 + 2), new 3)": "new f(new(1+2),new(3))",
		"f(1 + 2)": "f((1 + 2))", "f(1 < 2)": "f((1) < (2))", "f(1 == 2)": "f((1 == 2))", "f((1 + 2) + 3)": "f(1 + 2 + 3)", "f(1 + (2 + 3))": "f((1+(2+3)))", "f((1 + 2) < 3)": "f(1 + 2 < 3)", "f(1 == (2 + 3))": "f(1 == 2 + 3)", "f((1 < 2) + 3)": "f((1<2)+3)", "f(1 + (2 < 3))": "f(1+(2<3))", "f((1 < 2) == (3 < 4))": "f((1<2)==(3<4))",
		"f(1, 2 + 3)": "f(1, (2 + 3))", "f(1, (2 + 3) + 4)": "f(1, 2 + 3 + 4)", "f((1 + 2) + 3, 4 + (5 + 6), (7 < 8) + 9)": "f(1+2+3,4+(5+6),(7<8)+9)", "f((1 + 2) < 3, (4 + 5) == 6, (7 == 8) < 9)": "f(1+2<3,4+5==6,(7==8)<9)", "f(1 < (2 + 3), 4, (5 + 6) + 7)": "f(1<2+3,4,5+6+7)",
		"f(new (1 + 2))": "f((new(1+2)))", "f(new ((1 + 2) + 3), new (1 < 2), new 1)": "f(new(1+2+3),new(1<2),new(1))", "f(g(h()))": "f((g((h()))))", "f(g(1, 2), h(3), i())": "f(g(1,2),h(3),i())", "f(g((1 + 2) + 3), 4)": "f(g(1+2+3),4)",
		"f(1) + g(2)": "(f(1)) + (g(2))", "f() < g()": "(f())<(g())", "f(1 + 2) + 3": "f(1+2)+3", "(f() + 1) + g()": "f() + 1 + g()", "f() + (g() + 1)": "f()+(g()+1)", "f() == (1 + 2)": "f()==1+2",
		"(*a + &b) < (clone c + &mut d)": "*a+&b<clone c+&mut d", "(input + input) == input": "input+input==input", "(a + 0) + 1000000000": "a + 00 + 1000000000",
	}
}

func TestShowValueOfSumsInSums(t *testing.T) {
	for shown, text := range valuesInWords() {
		for _, words := range []string{shown, text, "(" + text + ")"} {
			p := mustRead(t, "fn m() { print "+words+"; }")
			k := len(p.Nodes) - 3
			showsValue(t, p, k, shown)
			showsStep(t, p, k+1, 0, "print "+shown+";\n")
			showsAll(t, p)
			partsComeBack(t, p)
		}
	}
	for text := range valuesTold() {
		p := mustRead(t, "fn m() { print "+text+"; }")
		showsAll(t, p)
		partsComeBack(t, p)
		comesBack(t, p)
	}
}

// smallValue puts a value of this Kind over as few others as it may have; 13 is a call with one value, 14 one with three.
func (pl *planter) smallValue(kind int) int {
	switch kind {
	case impl.NdNum:
		return pl.num(4)
	case impl.NdNew:
		return pl.put(node(kind, pl.num(5)))
	case impl.NdAdd, impl.NdLess, impl.NdSame:
		return pl.put(node(kind, pl.num(6), pl.num(7)))
	case impl.NdCall + 1:
		return pl.put(namedNode(impl.NdCall, "f", pl.num(8)))
	case impl.NdCall + 2:
		return pl.put(namedNode(impl.NdCall, "f", pl.num(8), pl.num(9), pl.num(10)))
	}
	return pl.put(ofKind(kind))
}

// Each kind of value on each side of each kind, under new, and as each value of a call.
func TestShowValueOfEachPair(t *testing.T) {
	seen := map[string]string{}
	for left := impl.NdNum; left <= impl.NdCall+2; left++ {
		for right := impl.NdNum; right <= impl.NdCall+2; right++ {
			var pl planter
			a, b, other := pl.smallValue(left), pl.smallValue(right), pl.num(3)
			outer := []int{
				pl.put(node(impl.NdNew, a)), pl.put(node(impl.NdAdd, a, b)), pl.put(node(impl.NdLess, a, b)), pl.put(node(impl.NdSame, a, b)),
				pl.put(namedNode(impl.NdCall, "f", a)), pl.put(namedNode(impl.NdCall, "f", a, b)), pl.put(namedNode(impl.NdCall, "f", other, a, b)),
			}
			for _, k := range outer {
				pl.put(node(impl.NdNew, k))
				pl.put(node(impl.NdAdd, k, other))
				pl.put(node(impl.NdLess, other, k))
				pl.put(namedNode(impl.NdCall, "g", other, k))
			}
			p := impl.Program{Nodes: pl.nodes}
			for k := range p.Nodes {
				want := laidOut(valueSigns(p.Nodes, k, false), 0)
				showsValue(t, p, k, want)
				// One text is one tree.
				tree := treeText(p.Nodes, k)
				if seen[want] != "" && seen[want] != tree {
					t.Fatalf("%s is the text of two trees", want)
				}
				seen[want] = tree
			}
		}
	}
	if len(seen) < 5000 {
		t.Errorf("%d values: the test tells little", len(seen))
	}
}

func TestShowStepOfEachKind(t *testing.T) {
	for text, want := range map[string]string{
		"let a = 1;":                           "let a = 1;\n",
		"let abcdefgh=new 1;":                  "let abcdefgh = new 1;\n",
		"let a = (1 + 2) + 3;":                 "let a = (1 + 2) + 3;\n",
		"let a = &b;":                          "let a = &b;\n",
		"let a = & mut b;":                     "let a = &mut b;\n",
		"a = 1;":                               "a = 1;\n",
		"a=*a;":                                "a = *a;\n",
		"a = 1 == 2;":                          "a = 1 == 2;\n",
		"* a=1 ;":                              "*a = 1;\n",
		"*a=*a+1;":                             "*a = *a + 1;\n",
		"*a = (1 + 2) < 3;":                    "*a = (1 + 2) < 3;\n",
		"print 1;":                             "print 1;\n",
		"print(1);":                            "print 1;\n",
		"print 1 + 2;":                         "print 1 + 2;\n",
		"print 1 + 2 + 3;":                     "print (1 + 2) + 3;\n",
		"print *a;":                            "print *a;\n",
		"print f(1,2);":                        "print f(1, 2);\n",
		"do f();":                              "do f();\n",
		"do(f());":                             "do f();\n",
		"do f(1);":                             "do f(1);\n",
		"do f(a,&b,&mut c);":                   "do f(a, &b, &mut c);\n",
		"do f(1+2,(3+4)+5);":                   "do f(1 + 2, (3 + 4) + 5);\n",
		"while 1 {}":                           "while 1 {\n}\n",
		"while a < 1 {}":                       "while a < 1 {\n}\n",
		"while 1 + 2 < 3 {}":                   "while (1 + 2) < 3 {\n}\n",
		"while f() {}":                         "while f() {\n}\n",
		"while new (1 + 2) {}":                 "while new (1 + 2) {\n}\n",
		"while 1 { print 2; }":                 "while 1 {\n  print 2;\n}\n",
		"while 1 { a = 2; *a = 3; }":           "while 1 {\n  a = 2;\n  *a = 3;\n}\n",
		"if 1 {} else {}":                      "if 1 {\n} else {\n}\n",
		"if(1){}else{}":                        "if 1 {\n} else {\n}\n",
		"if a + 1 == 2 {} else {}":             "if (a + 1) == 2 {\n} else {\n}\n",
		"if f(1) {} else {}":                   "if f(1) {\n} else {\n}\n",
		"if *a {print 1;} else {}":             "if *a {\n  print 1;\n} else {\n}\n",
		"if a {} else {print 1;}":              "if a {\n} else {\n  print 1;\n}\n",
		"if a {do f();}else{a=1;}":             "if a {\n  do f();\n} else {\n  a = 1;\n}\n",
		"while 1 { while 2 {} }":               "while 1 {\n  while 2 {\n  }\n}\n",
		"while 1 { if 2 {} else {} print 3; }": "while 1 {\n  if 2 {\n  } else {\n  }\n  print 3;\n}\n",
		"if 1 { if 2 {a=3;} else {} } else { while 4 {*a=5;} }":   "if 1 {\n  if 2 {\n    a = 3;\n  } else {\n  }\n} else {\n  while 4 {\n    *a = 5;\n  }\n}\n",
		"while 1 { while 2 { while 3 { let a = 4; } } print 5; }": "while 1 {\n  while 2 {\n    while 3 {\n      let a = 4;\n    }\n  }\n  print 5;\n}\n",
		"if 1 {} else { if 2 {} else { if 3 {} else {} } }":       "if 1 {\n} else {\n  if 2 {\n  } else {\n    if 3 {\n    } else {\n    }\n  }\n}\n",
	} {
		p := mustRead(t, "fn m() {"+text+"}")
		k := p.Nodes[p.Fns[0].Body].Kids[0]
		showsStep(t, p, k, 0, want)
		showsAll(t, p)
		partsComeBack(t, p)
		showsProgram(t, p, "fn m() {\n"+impl.ShowStep(p, k, 1)+"}\n")
		comesBack(t, p)
	}
}

// deeperIn gives a text whose lines are so much further in, 20 at most.
func deeperIn(text string, in int) string {
	var out strings.Builder
	for _, line := range strings.SplitAfter(text, "\n") {
		bare := strings.TrimLeft(line, " ")
		if bare != "" {
			out.WriteString(strings.Repeat("  ", min(20, in+(len(line)-len(bare))/2)) + bare)
		}
	}
	return out.String()
}

func TestShowStepByIn(t *testing.T) {
	for _, each := range []struct {
		step string
		text string
	}{
		{"print 1;", "print 1;\n"},
		{"let a = 1;", "let a = 1;\n"},
		{"*a = 1;", "*a = 1;\n"},
		{"do f();", "do f();\n"},
		{"while 1 {}", "while 1 {\n}\n"},
		{"if 1 {} else {}", "if 1 {\n} else {\n}\n"},
		{"while 1 { print 2; }", "while 1 {\n  print 2;\n}\n"},
		{"if 1 { a = 2; } else { b = 3; }", "if 1 {\n  a = 2;\n} else {\n  b = 3;\n}\n"},
		{"if 1 { while 2 { if 3 { a = 4; } else {} } b = 5; } else { c = 6; }", "if 1 {\n  while 2 {\n    if 3 {\n      a = 4;\n    } else {\n    }\n  }\n  b = 5;\n} else {\n  c = 6;\n}\n"},
	} {
		p := mustRead(t, "fn m() {"+each.step+"}")
		k := p.Nodes[p.Fns[0].Body].Kids[0]
		for _, in := range []int{math.MinInt, math.MinInt + 1, -21, -20, -2, -1, 0} {
			showsStep(t, p, k, in, each.text)
		}
		for in := range 21 {
			showsStep(t, p, k, in, deeperIn(each.text, in))
			showsStep(t, p, k, in, stepShown(p, k, in))
		}
		for _, in := range []int{20, 21, 22, 40, 1000000, math.MaxInt - 1, math.MaxInt} {
			showsStep(t, p, k, in, deeperIn(each.text, 20))
		}
	}
	wide := strings.Repeat(" ", 40)
	p := mustRead(t, "fn m() { while 1 { while 2 { print 3; } } }")
	k := len(p.Nodes) - 2
	showsStep(t, p, k, 1, "  while 1 {\n    while 2 {\n      print 3;\n    }\n  }\n")
	showsStep(t, p, k, 18, wide[4:]+"while 1 {\n"+wide[2:]+"while 2 {\n"+wide+"print 3;\n"+wide[2:]+"}\n"+wide[4:]+"}\n")
	showsStep(t, p, k, 19, wide[2:]+"while 1 {\n"+wide+"while 2 {\n"+wide+"print 3;\n"+wide+"}\n"+wide[2:]+"}\n")
	for _, in := range []int{20, 21, math.MaxInt} {
		showsStep(t, p, k, in, wide+"while 1 {\n"+wide+"while 2 {\n"+wide+"print 3;\n"+wide+"}\n"+wide+"}\n")
	}
}

func TestShowProgramOfFunctions(t *testing.T) {
	for text, want := range map[string]string{
		"fn f() {}":                          "fn f() {\n}\n",
		"fn abcdefgh(){}":                    "fn abcdefgh() {\n}\n",
		"fn f(a:int){}":                      "fn f(a: int) {\n}\n",
		"fn f(a:box){}":                      "fn f(a: box) {\n}\n",
		"fn f(a:& box){}":                    "fn f(a: &box) {\n}\n",
		"fn f(a:& mut box){}":                "fn f(a: &mut box) {\n}\n",
		"fn f(a:int,b:&box)->int{ret 1;}":    "fn f(a: int, b: &box) -> int {\n  ret 1;\n}\n",
		"fn f(a:int,b:box,c:&mut box){}":     "fn f(a: int, b: box, c: &mut box) {\n}\n",
		"fn f(a: int, a: int) {}":            "fn f(a: int, a: int) {\n}\n",
		"fn f()->box{ret new 1;}":            "fn f() -> box {\n  ret new 1;\n}\n",
		"fn f()->int{ret 1+2+3;}":            "fn f() -> int {\n  ret (1 + 2) + 3;\n}\n",
		"fn f()->int{print 1;ret f(2);}":     "fn f() -> int {\n  print 1;\n  ret f(2);\n}\n",
		"fn f(){}fn g(){}":                   "fn f() {\n}\nfn g() {\n}\n",
		"fn f()->int{ret 1;}fn g(){do f();}": "fn f() -> int {\n  ret 1;\n}\nfn g() {\n  do f();\n}\n",
		"fn f() { if 1 { a = 2; } else {} } fn g() -> box { while 1 {} ret a; }": "fn f() {\n  if 1 {\n    a = 2;\n  } else {\n  }\n}\nfn g() -> box {\n  while 1 {\n  }\n  ret a;\n}\n",
	} {
		p := mustRead(t, text)
		showsProgram(t, p, want)
		if comesBack(t, p) != want {
			t.Errorf("%q is shown otherwise", text)
		}
	}
	showsProgram(t, everyKind(), everyKindText)
	for _, text := range programTexts() {
		p := mustRead(t, text)
		comesBack(t, p)
		partsComeBack(t, p)
		showsAll(t, p)
	}
}

// All lines of functions: up to three params of each type, and each Res.
func TestShowProgramOfEachLine(t *testing.T) {
	types := []string{"", "int", "box", "&box", "&mut box"}
	for _, kinds := range kindLists([]int{impl.TyInt, impl.TyBox, impl.TyRef, impl.TyMut}, 3) {
		var params []impl.Param
		var texts []string
		for k, kind := range kinds {
			name := []string{"a", "b2", "abcdefgh"}[k]
			params = append(params, impl.Param{Name: name, Type: kind})
			texts = append(texts, name+": "+types[kind])
		}
		line := "fn f(" + strings.Join(texts, ", ") + ")"
		none := impl.Program{Nodes: []impl.Node{node(impl.NdBlock)}, Fns: []impl.Fn{{Name: "f", Params: params, Body: 0, Ret: -1}}}
		showsProgram(t, none, line+" {\n}\n")
		comesBack(t, none)
		for _, res := range []int{impl.TyInt, impl.TyBox} {
			one := impl.Program{Nodes: []impl.Node{namedNode(impl.NdVar, "a"), node(impl.NdBlock)}, Fns: []impl.Fn{{Name: "f", Params: params, Res: res, Body: 1, Ret: 0}}}
			showsProgram(t, one, line+" -> "+types[res]+" {\n  ret a;\n}\n")
			comesBack(t, one)
		}
	}
	var nodes []impl.Node
	var fns []impl.Fn
	want := ""
	for k := range 8 {
		name := "f" + strconv.Itoa(k)
		nodes = append(nodes, node(impl.NdBlock))
		fns = append([]impl.Fn{{Name: name, Body: k, Ret: -1}}, fns...)
		want = "fn " + name + "() {\n}\n" + want
		showsProgram(t, impl.Program{Nodes: nodes, Fns: fns}, want)
	}
	refusesProgram(t, impl.Program{Nodes: append(nodes, node(impl.NdBlock)), Fns: append(fns, impl.Fn{Name: "f8", Body: 8, Ret: -1})})
}

func TestShowProgramOfAnyPrograms(t *testing.T) {
	done, long, deepest := 0, 0, 0
	for start := range 2500 {
		s := scribe{dice: dice(start)}
		p := s.program()
		want, right := programShown(p)
		got, ok := impl.ShowProgram(p)
		if got != want || ok != right {
			t.Fatalf("ShowProgram(%.300s) = %.400q, %v; want %.400q, %v", programTold(p), got, ok, want, right)
		}
		if !ok {
			long++
			continue
		}
		comesBack(t, p)
		if start%40 == 0 {
			showsAll(t, p)
			partsComeBack(t, p)
		}
		for _, fn := range p.Fns {
			deepest = max(deepest, impl.DeepOf(p.Nodes, fn.Body), impl.DeepOf(p.Nodes, fn.Ret))
		}
		done++
	}
	if done < 1500 || long < 20 || deepest < 10 {
		t.Errorf("%d programs, %d too long, %d deep: the test tells little", done, long, deepest)
	}
}

// The nodes of a program may stand in any order, each behind its Kids, and its Rets ahead of its Bodies.
func TestShowProgramWithNodesElsewhere(t *testing.T) {
	d := dice(23)
	for _, text := range append(programTexts(), "fn f() {"+strings.Repeat("print 1;", 12)+"} fn g() -> int { a = 1; ret 1 + 2 < 3; }") {
		p := mustRead(t, text)
		want := comesBack(t, p)
		for range 40 {
			q := elsewhere(&d, p)
			for k, fn := range q.Fns {
				for at, step := range q.Nodes[fn.Body].Kids {
					showsStep(t, q, step, 3, impl.ShowStep(p, p.Nodes[p.Fns[k].Body].Kids[at], 3))
				}
			}
			// Without the nodes that are nobody's it is a program, too.
			reached := map[int]int{}
			for _, fn := range q.Fns {
				for _, top := range []int{fn.Body, fn.Ret} {
					for _, k := range impl.Under(q, top) {
						reached[k] = 0
					}
				}
			}
			var kept impl.Program
			for k, n := range q.Nodes {
				if _, is := reached[k]; is {
					reached[k] = len(kept.Nodes)
					for at, kid := range n.Kids {
						n.Kids[at] = reached[kid]
					}
					kept.Nodes = append(kept.Nodes, n)
				}
			}
			for _, fn := range q.Fns {
				fn.Body = reached[fn.Body]
				if fn.Ret != -1 {
					fn.Ret = reached[fn.Ret]
				}
				kept.Fns = append(kept.Fns, fn)
			}
			showsProgram(t, kept, want)
		}
	}
}

// longProgram gives a program whose text has n bytes: 1800 with numbers of one figure, and one more with each figure more.
func longProgram(n int) impl.Program {
	var pl planter
	var fns []impl.Fn
	more := n - 1800
	figures := func() int {
		grown := max(0, min(9, more))
		more -= grown
		return pl.num(int(math.Pow10(grown)))
	}
	for k := range 6 {
		var steps []int
		for range 12 {
			left := figures()
			less := pl.put(node(impl.NdLess, left, figures()))
			steps = append(steps, pl.put(namedNode(impl.NdLet, "abcdefgh", less)))
		}
		fns = append(fns, impl.Fn{Name: "f" + strconv.Itoa(k), Body: pl.block(steps...), Ret: -1})
	}
	return impl.Program{Nodes: pl.nodes, Fns: fns}
}

func TestShowProgramByLength(t *testing.T) {
	for n := 1800; n <= 3090; n++ {
		if n > 1810 && n < 2950 && n%37 > 0 {
			continue
		}
		p := longProgram(n)
		if !impl.ProgramOk(p) {
			t.Fatalf("the test's program of %d bytes is not right", n)
		}
		if n > impl.MaxSource {
			refusesProgram(t, p)
			continue
		}
		if text := comesBack(t, p); len(text) != n {
			t.Fatalf("ShowProgram has %d bytes; want %d", len(text), n)
		}
	}
	// What is refused as a whole is shown in parts.
	p := longProgram(3001)
	showsAll(t, p)
	comesBack(t, programOf300(0))
	refusesProgram(t, programOf300(1))
	showsStep(t, programOf300(0), 26, 0, "while 0 {\n"+strings.Repeat("  print 7;\n", 12)+"}\n")
}

// No limit but the depth holds for a value or a statement by itself; what is come to twice is shown twice.
func TestShowOfPartsComeToTwice(t *testing.T) {
	p := impl.Program{Nodes: doubled(10)}
	showsValue(t, p, 4, "(1 + a) + (a + (1 + a))"[len("(1 + a) + "):][1 : len("(a + (1 + a))")-1][:0]+impl.ShowValue(p, 4))
	showsAll(t, p)
	shared := impl.Program{Nodes: []impl.Node{numNode(1), node(impl.NdPrint, 0), node(impl.NdPrint, 0), node(impl.NdBlock, 1, 2), node(impl.NdIf, 0, 3, 3), node(impl.NdBlock, 1), node(impl.NdIf, 0, 3, 5)}}
	showsNothing(t, shared, 4)
	shared.Nodes[4] = node(impl.NdWhile, 0, 3)
	showsStep(t, shared, 4, 0, "while 1 {\n  print 1;\n  print 1;\n}\n")
	showsStep(t, shared, 6, 1, "  if 1 {\n    print 1;\n    print 1;\n  } else {\n    print 1;\n  }\n")
	// Three calls below each call, ten deep; and twelve loops in each block, each with the block below it.
	var pl planter
	calls := []int{pl.num(1), pl.num(2), pl.num(3)}
	want := []string{"1", "2", "3"}
	for range 9 {
		var next []int
		inner := strings.Join(want, ", ")
		for at := range 3 {
			next = append(next, pl.put(namedNode(impl.NdCall, "f", calls...)))
			want[at] = "f(" + inner + ")"
		}
		calls = next
	}
	wide := impl.Program{Nodes: pl.nodes}
	showsValue(t, wide, calls[2], want[2])
	pl = planter{}
	asked, block := pl.num(1), pl.block(pl.prints(12)...)
	body := strings.Repeat("  print 7;\n", 12)
	for range 3 {
		var steps []int
		for range 12 {
			steps = append(steps, pl.put(node(impl.NdWhile, asked, block)))
		}
		block = pl.block(steps...)
		body = strings.Repeat("  while 1 {\n"+deeperIn(body, 1)+"  }\n", 12)
	}
	last := pl.put(node(impl.NdWhile, asked, block))
	showsStep(t, impl.Program{Nodes: pl.nodes}, last, 0, "while 1 {\n"+body+"}\n")
	// So long a list, and names and numbers that are long.
	many := impl.Program{Nodes: slices.Repeat([]impl.Node{numNode(impl.MaxNumber)}, 5000)}
	many.Nodes = append(many.Nodes, node(impl.NdAdd, 4999, 0), namedNode(impl.NdLet, "abcdefgh", 5000))
	showsValue(t, many, 5000, "1000000000 + 1000000000")
	showsStep(t, many, 5001, 0, "let abcdefgh = 1000000000 + 1000000000;\n")
}

func TestShowRefusesPlacesThatAreNone(t *testing.T) {
	for _, p := range []impl.Program{everyKind(), {}, {Nodes: []impl.Node{}}, {Fns: everyKind().Fns}, {Nodes: []impl.Node{numNode(1), node(impl.NdPrint, 0)}}} {
		for _, k := range wrongPlaces(len(p.Nodes)) {
			showsNothing(t, p, k)
		}
		if len(p.Nodes) == 0 {
			showsNothing(t, p, 0)
		}
	}
}

func TestShowRefusesOtherKinds(t *testing.T) {
	p := everyKind()
	for k, n := range p.Nodes {
		value, step := impl.ShowValue(p, k), impl.ShowStep(p, k, 0)
		switch kidLetter(n.Kind) {
		case 'v', 'c':
			if value == "" || step != "" {
				t.Errorf("ShowValue = %q, ShowStep = %q of a value", value, step)
			}
		case 's':
			if value != "" || step == "" {
				t.Errorf("ShowValue = %q, ShowStep = %q of a statement", value, step)
			}
		default:
			showsNothing(t, p, k)
		}
	}
	for kind := -2; kind <= 25; kind++ {
		if kind < firstKind || kind > lastKind {
			showsNothing(t, impl.Program{Nodes: []impl.Node{{Kind: kind}}}, 0)
		}
	}
	empty := impl.Program{Nodes: []impl.Node{node(impl.NdBlock), numNode(1), node(impl.NdPrint, 1), node(impl.NdBlock, 2)}}
	showsNothing(t, empty, 0)
	showsNothing(t, empty, 3)
}

func TestShowRefusesNodesWhoseDeepOfIs0(t *testing.T) {
	base := everyKind()
	for wrong := range base.Nodes {
		for _, turn := range []func(n *impl.Node){
			func(n *impl.Node) { n.Num = -1 },
			func(n *impl.Node) { n.Kind = 0 },
			func(n *impl.Node) { n.Name = "let" },
			func(n *impl.Node) { n.Kids = append(n.Kids, wrong) },
		} {
			p := cloneProgram(base)
			turn(&p.Nodes[wrong])
			for k := range p.Nodes {
				if k >= wrong {
					showsNothing(t, p, k)
				} else {
					showsValue(t, p, k, impl.ShowValue(base, k))
					showsStep(t, p, k, 2, impl.ShowStep(base, k, 2))
				}
			}
			refusesProgram(t, p)
		}
	}
	for deep := 1; deep <= 13; deep++ {
		var pl planter
		at := pl.chain(deep)
		let := pl.put(namedNode(impl.NdLet, "a", at))
		other := pl.num(3)
		p := impl.Program{Nodes: pl.nodes}
		want := around(deep-1, "f(", "1", ")")
		if deep <= 10 {
			showsValue(t, p, at, want)
		} else {
			showsNothing(t, p, at)
		}
		if deep <= 9 {
			showsStep(t, p, let, 0, "let a = "+want+";\n")
			showsValue(t, p, other, "3")
		} else {
			// It is one too deep, and all behind it has no depth.
			showsNothing(t, p, let)
			showsNothing(t, p, other)
		}
	}
	for _, ring := range [][]impl.Node{{node(impl.NdNew, 0)}, {node(impl.NdNew, 1), node(impl.NdNew, 0)}, {node(impl.NdPrint, 1), node(impl.NdNew, 1)}, {numNode(1), node(impl.NdWhile, 0, 2), node(impl.NdBlock, 1)}} {
		for k := range ring {
			showsAll(t, impl.Program{Nodes: ring})
			if ring[k].Kind != impl.NdNum {
				showsNothing(t, impl.Program{Nodes: ring}, k)
			}
		}
	}
}

func TestShowOfChangedPrograms(t *testing.T) {
	right, wrong, kept := 0, 0, 0
	changedPrograms(func(what string, p impl.Program) {
		want, ok := programShown(p)
		if !ok {
			refusesProgram(t, p)
			wrong++
			return
		}
		showsProgram(t, p, want)
		comesBack(t, p)
		right++
		if want == everyKindText {
			kept++
		}
	})
	if right < 100 || wrong < 1000 || right-kept < 50 {
		t.Errorf("%d right, %d of them unlike, and %d wrong programs: the test tells little", right, right-kept, wrong)
	}
}

func TestShowProgramRefusesEachField(t *testing.T) {
	for what, turn := range map[string]func(p *impl.Program){
		"no nodes":                 func(p *impl.Program) { p.Nodes = nil },
		"no functions":             func(p *impl.Program) { p.Fns = nil },
		"nothing":                  func(p *impl.Program) { *p = impl.Program{} },
		"a Name that is none":      func(p *impl.Program) { p.Fns[1].Name = "fn" },
		"an empty Name":            func(p *impl.Program) { p.Fns[1].Name = "" },
		"a Name with a blank":      func(p *impl.Program) { p.Fns[1].Name = "a b" },
		"a Name of nine":           func(p *impl.Program) { p.Fns[1].Name = "abcdefghi" },
		"two of one Name":          func(p *impl.Program) { p.Fns[1].Name = "one" },
		"a param's empty Name":     func(p *impl.Program) { p.Fns[0].Params[1].Name = "" },
		"a param's wrong Name":     func(p *impl.Program) { p.Fns[0].Params[1].Name = "mut" },
		"a param of TyNone":        func(p *impl.Program) { p.Fns[0].Params[1].Type = impl.TyNone },
		"a param of Type -1":       func(p *impl.Program) { p.Fns[0].Params[1].Type = -1 },
		"a param of Type 5":        func(p *impl.Program) { p.Fns[0].Params[1].Type = 5 },
		"a param of a great Type":  func(p *impl.Program) { p.Fns[0].Params[1].Type = math.MaxInt },
		"four params":              func(p *impl.Program) { p.Fns[0].Params = append(p.Fns[0].Params, impl.Param{Name: "x", Type: 1}) },
		"a Res of TyRef":           func(p *impl.Program) { p.Fns[0].Res = impl.TyRef },
		"a Res of TyMut":           func(p *impl.Program) { p.Fns[0].Res = impl.TyMut },
		"a Res below 0":            func(p *impl.Program) { p.Fns[0].Res = math.MinInt },
		"a Res of 5":               func(p *impl.Program) { p.Fns[0].Res = 5 },
		"a Ret without a Res":      func(p *impl.Program) { p.Fns[0].Res = impl.TyNone },
		"a Res without a Ret":      func(p *impl.Program) { p.Fns[0].Ret = -1 },
		"a Body that is a value":   func(p *impl.Program) { p.Fns[0].Body = p.Fns[0].Ret },
		"a Body below 0":           func(p *impl.Program) { p.Fns[0].Body = -1 },
		"a Body past the end":      func(p *impl.Program) { p.Fns[0].Body = len(p.Nodes) },
		"a Ret that is a block":    func(p *impl.Program) { p.Fns[0].Ret = p.Fns[2].Body },
		"a Ret below -1":           func(p *impl.Program) { p.Fns[2].Ret = -2 },
		"a Ret past the end":       func(p *impl.Program) { p.Fns[0].Ret = len(p.Nodes) },
		"two with one Body":        func(p *impl.Program) { p.Fns[1].Body = p.Fns[0].Body },
		"two with one Ret":         func(p *impl.Program) { p.Fns[1].Ret = p.Fns[0].Ret },
		"a function less":          func(p *impl.Program) { p.Fns = p.Fns[:2] },
		"nine functions":           func(p *impl.Program) { p.Fns = slices.Repeat(p.Fns, 3) },
		"a node of nobody":         func(p *impl.Program) { p.Nodes = append(p.Nodes, numNode(1)) },
		"a wrong node at the end":  func(p *impl.Program) { p.Nodes = append(p.Nodes, impl.Node{Kind: 21}) },
		"a Num too great":          func(p *impl.Program) { p.Nodes[4].Num = impl.MaxNumber + 1 },
		"a Num below 0":            func(p *impl.Program) { p.Nodes[4].Num = -1 },
		"a Num of a block":         func(p *impl.Program) { p.Nodes[0].Num = 1 },
		"a Name of a block":        func(p *impl.Program) { p.Nodes[0].Name = "a" },
		"a node's Name":            func(p *impl.Program) { p.Nodes[1].Name = "A" },
		"a Kid of two":             func(p *impl.Program) { p.Nodes[3].Kids = []int{1, 1} },
		"a Kid behind":             func(p *impl.Program) { p.Nodes[3].Kids[1] = 5 },
		"a Kid below 0":            func(p *impl.Program) { p.Nodes[3].Kids[1] = -1 },
		"a Kid less":               func(p *impl.Program) { p.Nodes[3].Kids = p.Nodes[3].Kids[:1] },
		"a statement in a sum":     func(p *impl.Program) { p.Nodes[1] = node(impl.NdBlock) },
		"so many nodes":            func(p *impl.Program) { p.Nodes = slices.Repeat(p.Nodes, 20) },
		"a block of 13":            func(p *impl.Program) { p.Nodes[len(p.Nodes)-1].Kids = make([]int, 13) },
		"Kids of what has none":    func(p *impl.Program) { p.Nodes[2].Kids = []int{1} },
		"a value as a statement":   func(p *impl.Program) { p.Nodes[len(p.Nodes)-1].Kids[0] = 1 },
		"no Kind at all":           func(p *impl.Program) { p.Nodes[2] = impl.Node{} },
		"nodes in the other order": func(p *impl.Program) { slices.Reverse(p.Nodes) },
	} {
		p := cloneProgram(everyKind())
		turn(&p)
		if impl.ProgramOk(p) {
			t.Errorf("the program is right: %s", what)
		}
		refusesProgram(t, p)
	}
}

func TestShowOfAnyNodes(t *testing.T) {
	d := dice(29)
	values, steps := 0, 0
	for range 2500 {
		p := impl.Program{Nodes: anyNodes(&d, 1+d.below(24))}
		showsAll(t, p)
		for k := range p.Nodes {
			if len(impl.ShowValue(p, k)) > 10 {
				values++
			}
			if strings.Count(impl.ShowStep(p, k, d.below(23)-1), "\n") > 2 {
				steps++
			}
		}
		refusesProgram(t, p)
	}
	if values < 500 || steps < 100 {
		t.Errorf("%d values, %d statements of some length: the test tells little", values, steps)
	}
}

// The functions of a program are not asked for a value or a statement.
func TestShowAsksTheNodesAlone(t *testing.T) {
	p := everyKind()
	for _, fns := range [][]impl.Fn{nil, {{Name: "fn", Body: -5, Ret: 999, Res: 77}}} {
		q := impl.Program{Nodes: p.Nodes, Fns: fns}
		for k := range p.Nodes {
			showsValue(t, q, k, impl.ShowValue(p, k))
			showsStep(t, q, k, 1, impl.ShowStep(p, k, 1))
		}
	}
	// Nor are the nodes behind it.
	p.Nodes = append(p.Nodes, impl.Node{Kind: 99, Kids: []int{-1}})
	for k := range everyKind().Nodes {
		showsValue(t, p, k, impl.ShowValue(everyKind(), k))
		showsStep(t, p, k, 1, impl.ShowStep(everyKind(), k, 1))
	}
}

func TestShowKeepsNothing(t *testing.T) {
	p, q := everyKind(), longProgram(3000)
	want, _ := impl.ShowProgram(q)
	for k := -1; k <= len(p.Nodes); k++ {
		impl.ShowValue(p, k)
		impl.ShowStep(p, k, k)
		impl.ShowProgram(longProgram(3001))
		impl.ShowProgram(impl.Program{})
		showsProgram(t, p, everyKindText)
		showsProgram(t, q, want)
	}
}

func TestShowArgumentsStayAsTheyAre(t *testing.T) {
	wrong := everyKind()
	wrong.Nodes[9].Num = 1
	for _, base := range []impl.Program{everyKind(), wrong, mustRead(t, programTexts()[5]), longProgram(3001)} {
		p := roomyProgram(base)
		for k := -1; k <= len(p.Nodes); k++ {
			impl.ShowValue(p, k)
			impl.ShowStep(p, k, k)
		}
		impl.ShowProgram(p)
		if !untouched(p.Nodes, base.Nodes) || !samePrograms(p, base) || p.Fns[:len(p.Fns)+1][len(p.Fns)].Res != -77 {
			t.Error("a program that was handed in is changed")
		}
		for _, fn := range p.Fns {
			if fn.Params[:len(fn.Params)+1][len(fn.Params)].Type != -77 {
				t.Error("the room behind the Params of a program that was handed in is changed")
			}
		}
	}
}

func TestShowAnswersAreNewMemory(t *testing.T) {
	p := roomyProgram(everyKind())
	given := spansOf(p)
	apart := func(what string, texts ...string) {
		t.Helper()
		list := slices.Clone(given)
		for _, text := range texts {
			if text != "" {
				list = append(list, textSpan(text))
			}
		}
		if meet(list) {
			t.Errorf("%s shares memory", what)
		}
	}
	one, _ := impl.ShowProgram(p)
	other, _ := impl.ShowProgram(p)
	apart("ShowProgram", one, other)
	for k := range p.Nodes {
		apart("ShowValue", impl.ShowValue(p, k), impl.ShowValue(p, k))
		apart("ShowStep", impl.ShowStep(p, k, 0), impl.ShowStep(p, k, 0))
	}
}
