package tests

import (
	"math"
	"slices"
	"strconv"
	"strings"
	"testing"

	"loop.example/g00423/impl"
)

// typeLetters tells each type in short, by its number: none, int, box, &box, &mut box.
const typeLetters = "nibrm"

// typeWords are the types as they are read, by number; the first one is none.
func typeWords() []string { return []string{"", "int", "box", "&box", "&mut box"} }

func allTypes() []int {
	return []int{impl.TyInt, impl.TyBox, impl.TyRef, impl.TyMut}
}

// oddTypes are numbers that are no types.
func oddTypes() []int { return []int{-1, -2, 5, 6, 77, math.MinInt, math.MaxInt, 1 << 32} }

// usesByType tells for each kind of use, by the type of its var, of what type the value is.
func usesByType() map[int]string {
	return map[int]string{
		impl.NdVar:   "nibrm",
		impl.NdRead:  "iniii",
		impl.NdClone: "bnbbb",
		impl.NdLend:  "nnrnn",
		impl.NdMut:   "nnmnn",
	}
}

// deepCount tells how many nodes at the beginning have a depth: none does behind one that has none.
func deepCount(nodes []impl.Node) int {
	for k := range nodes {
		if !nodeByRule(nodes, k) || wayDown(nodes, k) > 10 {
			return k
		}
	}
	return len(nodes)
}

// varTypeByRule gives the type of the first one with this name.
func varTypeByRule(list []impl.Var, name string) (int, bool) {
	for _, v := range list {
		if v.Name == name {
			return v.Type, true
		}
	}
	return 0, false
}

// useByRule gives the type of a use of a var that has this type, which may be none of the five.
func useByRule(kind, ty int) int {
	if 0 <= ty && ty < len(typeLetters) {
		return strings.IndexByte(typeLetters, usesByType()[kind][ty])
	}
	return map[int]int{impl.NdVar: ty, impl.NdRead: impl.TyInt, impl.NdClone: impl.TyBox}[kind]
}

// callByRule gives the Res of what is called, and whether it takes Kids of these types.
func callByRule(p impl.Program, name string, kids []int) (int, bool) {
	for _, fn := range p.Fns {
		if fn.Name == name {
			var wanted []int
			for _, param := range fn.Params {
				wanted = append(wanted, param.Type)
			}
			return fn.Res, slices.Equal(wanted, kids)
		}
	}
	return 0, false
}

// valueByRule gives the type of a node that has a depth.
func valueByRule(p impl.Program, list []impl.Var, k int) int {
	n := p.Nodes[k]
	if kidLetter(n.Kind) != 'v' && kidLetter(n.Kind) != 'c' {
		return impl.TyNone
	}
	kids := kidTypes(p, list, n)
	ints := !slices.ContainsFunc(kids, func(ty int) bool { return ty != impl.TyInt })
	switch {
	case n.Kind == impl.NdCall:
		if res, ok := callByRule(p, n.Name, kids); ok {
			return res
		}
	case usesByType()[n.Kind] != "":
		if ty, known := varTypeByRule(list, n.Name); known {
			return useByRule(n.Kind, ty)
		}
	case n.Kind == impl.NdNew && ints:
		return impl.TyBox
	case ints:
		return impl.TyInt
	}
	return impl.TyNone
}

func kidTypes(p impl.Program, list []impl.Var, n impl.Node) []int {
	var kids []int
	for _, kid := range n.Kids {
		kids = append(kids, valueByRule(p, list, kid))
	}
	return kids
}

// typesByRule is TypesOf of a function whose names are right.
func typesByRule(p impl.Program, fn int) ([]impl.Var, bool) {
	list := varsByRule(p, fn)
	for k, v := range list {
		if v.Node >= 0 {
			list[k].Type = valueByRule(p, list, p.Nodes[v.Node].Kids[0])
		}
		if list[k].Type == impl.TyNone {
			return nil, false
		}
	}
	return list, true
}

// stepByRule tells whether a statement is right, by the letters of its var and its value.
func stepByRule(p impl.Program, list []impl.Var, n impl.Node) bool {
	if n.Kind == impl.NdDo {
		call := p.Nodes[n.Kids[0]]
		_, ok := callByRule(p, call.Name, kidTypes(p, list, call))
		return ok
	}
	value := typeLetters[valueByRule(p, list, n.Kids[0])]
	ty, _ := varTypeByRule(list, n.Name)
	both := string([]byte{typeLetters[ty], value})
	switch n.Kind {
	case impl.NdLet:
		return value != 'n'
	case impl.NdSet:
		return both == "ii" || both == "bb"
	case impl.NdStore:
		return both == "bi" || both == "mi"
	}
	return value == 'i'
}

// typesRightByRule is TypesRight of a program whose names are right.
func typesRightByRule(p impl.Program) bool {
	for at, fn := range p.Fns {
		list, ok := typesByRule(p, at)
		if !ok || fn.Ret >= 0 && valueByRule(p, list, fn.Ret) != fn.Res {
			return false
		}
		for k := range standing(p, fn.Body) {
			if kidLetter(p.Nodes[k].Kind) == 's' && !stepByRule(p, list, p.Nodes[k]) {
				return false
			}
		}
	}
	return true
}

// typesHold holds all of the chapter against the rules, and tells whether the types are right.
func typesHold(t *testing.T, what string, p impl.Program) bool {
	t.Helper()
	named := namesByRule(p)
	right := named && typesRightByRule(p)
	if got := impl.TypesRight(p); got != right {
		t.Fatalf("TypesRight = %v: %s", got, what)
	}
	deep := deepCount(p.Nodes)
	for fn := -1; fn <= len(p.Fns); fn++ {
		var want []impl.Var
		ok := named && fn >= 0 && fn < len(p.Fns)
		if ok {
			want, ok = typesByRule(p, fn)
		}
		got, gotOk := impl.TypesOf(p, fn)
		if gotOk != ok || !slices.Equal(got, want) {
			t.Fatalf("TypesOf(.., %d) = %s, %v; want %s, %v: %s", fn, varsTold(got), gotOk, varsTold(want), ok, what)
		}
		if ok {
			for k := range standing(p, p.Fns[fn].Body, p.Fns[fn].Ret) {
				typeHolds(t, what, p, want, k, deep)
			}
		}
	}
	// And each node with the vars of one function, whose lets have no types.
	list := varsByRule(p, len(p.Fns)/2)
	for k := -1; k <= len(p.Nodes); k++ {
		typeHolds(t, what, p, list, k, deep)
	}
	return right
}

// typeHolds holds TypeOf against the rule; so many nodes have a depth.
func typeHolds(t *testing.T, what string, p impl.Program, list []impl.Var, k, deep int) {
	t.Helper()
	want := impl.TyNone
	if 0 <= k && k < deep {
		want = valueByRule(p, list, k)
	}
	if got := impl.TypeOf(p, list, k); got != want {
		t.Fatalf("TypeOf(.., %s, %d) = %d; want %d: %s", varsTold(list), k, got, want, what)
	}
}

func isTypes(t *testing.T, p impl.Program, fn int, want string) {
	t.Helper()
	if got, ok := impl.TypesOf(p, fn); !ok || varsTold(got) != want {
		t.Errorf("TypesOf(.., %d) = %s, %v; want %s, true", fn, varsTold(got), ok, want)
	}
}

func refusesTypes(t *testing.T, p impl.Program, fn int) {
	t.Helper()
	if got, ok := impl.TypesOf(p, fn); ok || len(got) != 0 {
		t.Errorf("TypesOf(.., %d) = %s, %v; want nothing, false", fn, varsTold(got), ok)
	}
}

func isType(t *testing.T, p impl.Program, list []impl.Var, k int, want int) {
	t.Helper()
	if got := impl.TypeOf(p, list, k); got != want {
		t.Errorf("TypeOf(.., %s, %d) = %d; want %d", varsTold(list), k, got, want)
	}
}

// areTyped asks TypesRight of a program whose names are right.
func areTyped(t *testing.T, want bool, text string) {
	t.Helper()
	p := mustRead(t, text)
	if !impl.NamesRight(p) {
		t.Fatalf("NamesRight = false of %s", text)
	}
	if got := impl.TypesRight(p); got != want {
		t.Errorf("TypesRight = %v of %s", got, text)
	}
}

// fiveVars has a var of each type, whose name is its letter; n has none yet.
func fiveVars() []impl.Var {
	var list []impl.Var
	for ty, letter := range strings.Split(typeLetters, "") {
		list = append(list, impl.Var{Name: letter, Type: ty, Node: -1})
	}
	return list
}

// valueLetters gives the type of values whose names are those of fiveVars; x is nobody's, f, g, h and two are called.
func valueLetters() map[string]string {
	return map[string]string{
		"0": "i", "1000000000": "i", "input": "i",
		"i": "i", "b": "b", "r": "r", "m": "m", "n": "n", "x": "n",
		"*i": "n", "*b": "i", "*r": "i", "*m": "i", "*x": "n",
		"clone i": "n", "clone b": "b", "clone r": "b", "clone m": "b", "clone x": "n",
		"&i": "n", "&b": "r", "&r": "n", "&m": "n", "&n": "n", "&x": "n",
		"&mut i": "n", "&mut b": "m", "&mut r": "n", "&mut m": "n", "&mut n": "n", "&mut x": "n",
		"new 1": "b", "new i": "b", "new b": "n", "new r": "n", "new m": "n", "new x": "n", "new *r": "b", "new new 1": "n", "new input": "b", "new f(i)": "b", "new g(i)": "n",
		"1 + 2": "i", "i + i": "i", "i + *b": "i", "*r + *m": "i", "i + b": "n", "b + i": "n", "b + b": "n", "r + r": "n", "i + m": "n", "x + 1": "n", "1 + x": "n", "1 + new 2": "n", "&b + 1": "n",
		"1 < 2": "i", "i < *b": "i", "b < b": "n", "i < r": "n", "m < i": "n", "x < 1": "n", "1 < x": "n",
		"1 == 2": "i", "i == *b": "i", "b == b": "n", "r == r": "n", "i == b": "n", "b == i": "n", "x == x": "n",
		"1 + 2 + 3": "i", "1 + (2 < i) + (i == *b)": "i", "1 + (2 + (3 + b))": "n", "(b < 1) + 1": "n", "new (1 + (*m == 2))": "b", "new (1 + m)": "n",
		"f(1)": "i", "f(i)": "i", "f(b)": "n", "f(r)": "n", "f(m)": "n", "f(x)": "n", "f()": "n", "f(1, 2)": "n", "f(f(f(1)))": "i", "f(f(b))": "n", "f(g(1))": "n", "f(1 + *b) < f(2)": "i",
		"g(1)": "b", "g(b)": "n", "g(*b)": "b", "g(f(1))": "b", "g(g(1))": "n", "g(1) + 1": "n", "new g(1)": "n",
		// Of a call without a Res nothing comes, though it is right.
		"h()": "n", "h(1)": "n", "f(h())": "n", "new h()": "n", "h() + 1": "n", "1 + h()": "n", "h() < 1": "n", "h() == h()": "n", "g(h())": "n",
		"all(b, r, m)": "i", "all(new 1, &b, &mut b)": "i", "all(clone r, r, m)": "i", "all(b, b, m)": "n", "all(b, r, r)": "n", "all(r, r, m)": "n", "all(1, r, m)": "n", "all(b, 1, m)": "n", "all(b, r, 1)": "n",
		"all(b, r)": "n", "all(b)": "n", "all()": "n", "all(m, r, b)": "n", "all(x, r, m)": "n", "all(b, x, m)": "n", "all(b, r, x)": "n", "all(h(), r, m)": "n", "all(b, &r, m)": "n", "all(b, r, &mut m)": "n",
		"none(1)": "n", "none()": "n", "i(1)": "n", "self()": "n",
	}
}

// calledText has the functions that are called there.
const calledText = "fn f(a: int) -> int { ret a; } fn g(a: int) -> box { ret new a; } fn h() { } fn all(a: box, c: &box, d: &mut box) -> int { ret *a; } "

func TestTypeOfForms(t *testing.T) {
	for value, letter := range valueLetters() {
		p := mustRead(t, calledText+"fn self() { print "+value+"; }")
		last := p.Fns[4].Body
		isType(t, p, fiveVars(), last-2, strings.Index(typeLetters, letter))
		if t.Failed() {
			t.Fatalf("the value is %s", value)
		}
		// The statement and the block are no values.
		isType(t, p, fiveVars(), last-1, impl.TyNone)
		isType(t, p, fiveVars(), last, impl.TyNone)
	}
}

func TestTypeOfEachUseByTypeOfItsVar(t *testing.T) {
	for kind, letters := range usesByType() {
		p := impl.Program{Nodes: []impl.Node{namedNode(kind, "a")}}
		for ty := range typeLetters {
			isType(t, p, []impl.Var{{Name: "a", Type: ty, Node: -1}}, 0, strings.IndexByte(typeLetters, letters[ty]))
		}
		for _, ty := range oddTypes() {
			want := map[int]int{impl.NdVar: ty, impl.NdRead: impl.TyInt, impl.NdClone: impl.TyBox}[kind]
			isType(t, p, []impl.Var{{Name: "a", Type: ty}}, 0, want)
		}
		// No Var has the name.
		for _, list := range [][]impl.Var{nil, {}, {{Name: "", Type: impl.TyBox}}, {{Name: "A", Type: impl.TyBox}, {Name: "aa", Type: impl.TyBox}, {Name: "b", Type: impl.TyBox}}} {
			isType(t, p, list, 0, impl.TyNone)
		}
		// The first one that has it counts, whatever stands around it.
		for first := range typeLetters {
			for second := range typeLetters {
				list := []impl.Var{{Name: "b", Type: second, Node: -1}, {Name: "a", Type: first, Node: 7}, {Name: "a", Type: second, Node: -1}, {Name: "b", Type: first}}
				isType(t, p, list, 0, strings.IndexByte(typeLetters, letters[first]))
			}
		}
	}
}

// valueOf puts a value of this type: an NdVar with a name of fiveVars.
func valueOf(pl *planter, ty int) int {
	return pl.put(namedNode(impl.NdVar, typeLetters[ty:ty+1]))
}

func TestTypeOfSumsByTypesOfEachSide(t *testing.T) {
	for ty := range typeLetters {
		var pl planter
		at := pl.put(node(impl.NdNew, valueOf(&pl, ty)))
		want := impl.TyNone
		if ty == impl.TyInt {
			want = impl.TyBox
		}
		isType(t, impl.Program{Nodes: pl.nodes}, fiveVars(), at, want)
		for other := range typeLetters {
			for _, kind := range []int{impl.NdAdd, impl.NdLess, impl.NdSame} {
				var pl planter
				at := pl.put(node(kind, valueOf(&pl, ty), valueOf(&pl, other)))
				want := impl.TyNone
				if ty == impl.TyInt && other == impl.TyInt {
					want = impl.TyInt
				}
				isType(t, impl.Program{Nodes: pl.nodes}, fiveVars(), at, want)
			}
		}
	}
}

// typeLists gives all lists of types, with at most three of them.
func typeLists() [][]int { return kindLists(allTypes(), 3) }

func paramsOf(types []int) []impl.Param {
	var params []impl.Param
	for k, ty := range types {
		params = append(params, impl.Param{Name: "p" + strconv.Itoa(k), Type: ty})
	}
	return params
}

func TestTypeOfCallsByParamsAndKids(t *testing.T) {
	for _, wanted := range typeLists() {
		for _, given := range typeLists() {
			var pl planter
			body := pl.block()
			var kids []int
			for _, ty := range given {
				kids = append(kids, valueOf(&pl, ty))
			}
			at := pl.put(namedNode(impl.NdCall, "f", kids...))
			for _, res := range []int{impl.TyNone, impl.TyInt, impl.TyBox} {
				want := impl.TyNone
				if slices.Equal(wanted, given) {
					want = res
				}
				p := impl.Program{Nodes: pl.nodes, Fns: []impl.Fn{{Name: "g", Res: impl.TyInt}, {Name: "f", Params: paramsOf(wanted), Res: res, Body: body, Ret: -1}, {Name: "f", Res: impl.TyBox}}}
				isType(t, p, fiveVars(), at, want)
			}
		}
	}
	// With a Kid of no type, whatever the Param's is.
	for _, ty := range allTypes() {
		var pl planter
		at := pl.put(namedNode(impl.NdCall, "f", valueOf(&pl, impl.TyNone)))
		isType(t, impl.Program{Nodes: pl.nodes, Fns: []impl.Fn{{Name: "f", Params: paramsOf([]int{ty}), Res: impl.TyInt}}}, fiveVars(), at, impl.TyNone)
		isType(t, impl.Program{Nodes: pl.nodes, Fns: []impl.Fn{{Name: "f", Params: paramsOf([]int{ty}), Res: impl.TyInt}}}, nil, at, impl.TyNone)
	}
}

// The function that is called may stand anywhere, and be the one that calls.
func TestTypeOfCallsByPlaceOfTheFunction(t *testing.T) {
	p := mustRead(t, "fn one() -> int { ret two(); } fn two() -> box { ret one(); } fn three() { print three(); print four(); }")
	want := []int{impl.TyNone, impl.TyBox, impl.TyNone, impl.TyInt, impl.TyNone}
	for k, ty := range want {
		isType(t, p, nil, k, ty)
	}
	if impl.TypesRight(p) {
		t.Error("TypesRight = true of calls of what does not stand ahead")
	}
	for fn := range p.Fns {
		refusesTypes(t, p, fn)
	}
	// The first one of a name counts.
	call := []impl.Node{namedNode(impl.NdCall, "f")}
	isType(t, impl.Program{Nodes: call, Fns: []impl.Fn{{Name: "f", Res: impl.TyBox}, {Name: "f", Res: impl.TyInt}}}, nil, 0, impl.TyBox)
	isType(t, impl.Program{Nodes: call, Fns: []impl.Fn{{Name: "f", Params: paramsOf([]int{1})}, {Name: "f", Res: impl.TyInt}}}, nil, 0, impl.TyNone)
	isType(t, impl.Program{Nodes: call}, nil, 0, impl.TyNone)
}

func TestTypeOfDeepValues(t *testing.T) {
	for deep := 1; deep <= 14; deep++ {
		for kind, want := range map[int]int{impl.NdAdd: impl.TyInt, impl.NdLess: impl.TyInt, impl.NdSame: impl.TyInt, impl.NdCall: impl.TyInt} {
			for _, wrong := range []bool{false, true} {
				var pl planter
				at := pl.num(1)
				if wrong {
					at = pl.put(node(impl.NdNew, at))
				}
				for range deep - 1 {
					if kind == impl.NdCall {
						at = pl.put(namedNode(kind, "f", at))
					} else {
						at = pl.put(node(kind, at, pl.num(2)))
					}
				}
				p := impl.Program{Nodes: pl.nodes, Fns: []impl.Fn{{Name: "f", Params: paramsOf([]int{impl.TyInt}), Res: impl.TyInt}}}
				switch {
				case wrong && deep == 1:
					isType(t, p, nil, at, impl.TyBox)
				case wrong || deep > impl.MaxDeep:
					isType(t, p, nil, at, impl.TyNone)
				default:
					isType(t, p, nil, at, want)
				}
			}
		}
	}
}

func TestTypeOfRefusesPlacesThatAreNone(t *testing.T) {
	for _, p := range []impl.Program{everyKind(), {}, {Fns: everyKind().Fns}, {Nodes: []impl.Node{}}, mustRead(t, filled())} {
		for _, k := range wrongPlaces(len(p.Nodes)) {
			isType(t, p, fiveVars(), k, impl.TyNone)
			isType(t, p, nil, k, impl.TyNone)
		}
	}
}

func TestTypeOfRefusesOtherKinds(t *testing.T) {
	for kind := -2; kind <= lastKind+2; kind++ {
		if letter := kidLetter(kind); letter == 'v' || letter == 'c' {
			continue
		}
		nodes := []impl.Node{ofKind(kind)}
		if letter := kidLetter(kind); letter != 'x' {
			nodes = overKinds(ofKind(kind), rightKids(kind))
		}
		p := impl.Program{Nodes: nodes, Fns: []impl.Fn{{Name: "a", Res: impl.TyInt}}}
		isType(t, p, []impl.Var{{Name: "a", Type: impl.TyInt}}, len(nodes)-1, impl.TyNone)
	}
}

// A node that is not right takes the depth from all behind it, whether they hang from it or not.
func TestTypeOfRefusesNodesWhoseDeepOfIs0(t *testing.T) {
	base := mustRead(t, calledText+"fn self() { print f(1) + 2; }")
	first := base.Fns[4].Body - 6
	for k := first; k <= first+4; k++ {
		if impl.DeepOf(base.Nodes, k) == 0 {
			t.Fatalf("the test's node %d is not right", k)
		}
	}
	at := base.Fns[4].Body - 2
	isType(t, base, nil, at, impl.TyInt)
	for k, n := range base.Nodes {
		for what, wrong := range map[string]impl.Node{
			"another Kind":  {Kind: 21, Num: n.Num, Name: n.Name, Kids: n.Kids},
			"no Kind":       {Num: n.Num, Name: n.Name, Kids: n.Kids},
			"a Num below 0": {Kind: n.Kind, Num: -1, Name: n.Name, Kids: n.Kids},
			"a great Num":   {Kind: n.Kind, Num: impl.MaxNumber + 1, Name: n.Name, Kids: n.Kids},
			"another Name":  {Kind: n.Kind, Num: n.Num, Name: n.Name + "_", Kids: n.Kids},
			"one more Kid":  {Kind: n.Kind, Num: n.Num, Name: n.Name, Kids: append(slices.Clone(n.Kids), -1)},
			"itself as Kid": {Kind: n.Kind, Num: n.Num, Name: n.Name, Kids: append(slices.Clone(n.Kids), k)},
		} {
			p := cloneProgram(base)
			p.Nodes[k] = wrong
			want := impl.TyInt
			if k <= at {
				want = impl.TyNone
			}
			if got := impl.TypeOf(p, nil, at); got != want {
				t.Errorf("TypeOf = %d with %s of the node %d", got, what, k)
			}
			if impl.TypesRight(p) {
				t.Errorf("TypesRight = true with %s of the node %d", what, k)
			}
			for fn := range p.Fns {
				refusesTypes(t, p, fn)
			}
		}
	}
}

// TypeOf asks neither for the functions nor for how nodes hang together.
func TestTypeOfAsksForTheValueAlone(t *testing.T) {
	nodes := []impl.Node{numNode(1), node(impl.NdNew, 0), namedNode(impl.NdCall, "f", 0, 1), node(impl.NdAdd, 0, 2), node(impl.NdLet), numNode(2)}
	for _, fn := range []impl.Fn{
		{Name: "f", Params: paramsOf([]int{1, 2}), Res: 1, Body: 0, Ret: 0},
		{Name: "f", Params: paramsOf([]int{1, 2}), Res: 1, Body: -7, Ret: 99},
		{Name: "f", Params: []impl.Param{{Name: "let", Type: 1}, {Name: "", Type: 2}}, Res: 1},
		{Name: "f", Params: []impl.Param{{Name: "a", Type: 1}, {Name: "a", Type: 2}}, Res: 1},
	} {
		p := impl.Program{Nodes: nodes, Fns: []impl.Fn{{Name: "let"}, fn, fn}}
		for k, want := range []int{1, 2, 1, 1, 0, 0} {
			isType(t, p, nil, k, want)
		}
	}
	// Whatever the Res is.
	for _, res := range append(oddTypes(), impl.TyNone, impl.TyRef, impl.TyMut) {
		p := impl.Program{Nodes: nodes, Fns: []impl.Fn{{Name: "f", Params: paramsOf([]int{1, 2}), Res: res}}}
		isType(t, p, nil, 2, res)
		isType(t, p, nil, 3, impl.TyNone)
	}
	// Params of no type take what has just that.
	for _, ty := range oddTypes() {
		p := impl.Program{Nodes: []impl.Node{namedNode(impl.NdVar, "a"), namedNode(impl.NdCall, "f", 0)}, Fns: []impl.Fn{{Name: "f", Params: paramsOf([]int{ty}), Res: 2}}}
		isType(t, p, []impl.Var{{Name: "a", Type: ty}}, 1, impl.TyBox)
		isType(t, p, []impl.Var{{Name: "a", Type: impl.TyInt}}, 1, impl.TyNone)
	}
}

func TestTypeOfOfPartsComeToTwice(t *testing.T) {
	// Three Kids below each call, ten deep.
	var pl planter
	kids := []int{pl.num(1), pl.put(namedNode(impl.NdVar, "i")), pl.put(namedNode(impl.NdRead, "b"))}
	for range 9 {
		kids = []int{pl.put(namedNode(impl.NdCall, "f", kids...)), pl.put(namedNode(impl.NdCall, "f", kids...)), pl.put(namedNode(impl.NdCall, "f", kids...))}
	}
	p := impl.Program{Nodes: pl.nodes, Fns: []impl.Fn{{Name: "f", Params: paramsOf([]int{1, 1, 1}), Res: 1}}}
	isType(t, p, fiveVars(), kids[2], impl.TyInt)
	isType(t, p, nil, kids[2], impl.TyNone)
	p.Nodes = append(p.Nodes, namedNode(impl.NdCall, "f", kids...))
	isType(t, p, fiveVars(), len(p.Nodes)-1, impl.TyNone)
	// A ring.
	ring := impl.Program{Nodes: []impl.Node{node(impl.NdNew, 1), node(impl.NdNew, 0), numNode(1)}}
	for k := range ring.Nodes {
		isType(t, ring, nil, k, impl.TyNone)
	}
	// Long lists of nodes and of vars.
	long := impl.Program{Nodes: slices.Repeat([]impl.Node{namedNode(impl.NdVar, "y")}, 20000)}
	long.Nodes = append(long.Nodes, node(impl.NdAdd, 3, 19999))
	vars := append(slices.Repeat([]impl.Var{{Name: "x", Type: impl.TyBox}}, 100000), impl.Var{Name: "y", Type: impl.TyInt}, impl.Var{Name: "y", Type: impl.TyBox})
	isType(t, long, vars, 20000, impl.TyInt)
	isType(t, long, vars[:100000], 20000, impl.TyNone)
}

func TestTypesOfForms(t *testing.T) {
	for text, want := range map[string][]string{
		"fn f() { }":                                 {""},
		"fn f() -> int { ret 1; }":                   {""},
		"fn f() { print 1; while 0 { } }":            {""},
		"fn f(a: int) { }":                           {"a:1@-1"},
		"fn f(a: box) { }":                           {"a:2@-1"},
		"fn f(a: &box) { }":                          {"a:3@-1"},
		"fn f(a: &mut box) { }":                      {"a:4@-1"},
		"fn f(c: &mut box, b: int, a: box) { }":      {"c:4@-1 b:1@-1 a:2@-1"},
		"fn f() { let a = 1; }":                      {"a:1@1"},
		"fn f() { let a = input; }":                  {"a:1@1"},
		"fn f() { let a = new 1; }":                  {"a:2@2"},
		"fn f() { let a = 1 + 2; let b = 1 < 2; }":   {"a:1@3 b:1@7"},
		"fn f() { let a = new 1; let b = &a; }":      {"a:2@2 b:3@4"},
		"fn f() { let a = new 1; let b = &mut a; }":  {"a:2@2 b:4@4"},
		"fn f() { let a = new 1; let b = clone a; }": {"a:2@2 b:2@4"},
		"fn f() { let a = new 1; let b = a; }":       {"a:2@2 b:2@4"},
		"fn f() { let a = new 1; let b = *a; }":      {"a:2@2 b:1@4"},
		"fn f() { let a = 1; let b = new a; }":       {"a:1@1 b:2@4"},
		"fn f(a: &mut box) { let b = a; let c = *b; let d = clone b; let e = &d; let g = e; let h = *g + c; }":                       {"a:4@-1 b:4@1 c:1@3 d:2@5 e:3@7 g:3@9 h:1@13"},
		"fn f(b: int) { if b { let c = b; while c { let d = new c; let e = &mut d; } } else { let g = input == b; } let h = b; }":    {"b:1@-1 c:1@2 d:2@6 e:4@8 g:1@15 h:1@19"},
		"fn f() -> box { let a = new 1; ret a; } fn g(a: &box) -> int { let b = *a; ret b; } fn h() { let a = f(); let b = g(&a); }": {"a:2@2", "a:3@-1 b:1@6", "a:2@10 b:1@13"},
		// What is wrong in a statement or a Ret is not asked for.
		"fn f(a: box) -> box { let b = *a; *b = new 2; b = new 3; print &b; while new 1 { } ret b; }": {"a:2@-1 b:1@1"},
		"fn f(a: int) -> int { ret a; } fn g(c: box) { do f(new 2); let b = 1; do f(c); }":            {"a:1@-1", "c:2@-1 b:1@7"},
	} {
		p := mustRead(t, text)
		for fn := range want {
			isTypes(t, p, fn, want[fn])
		}
	}
	p := mustRead(t, rightText)
	isTypes(t, p, 0, "b:3@-1 n:1@-1 m:4@-1")
	isTypes(t, p, 1, "b:2@-1 c:2@8")
	isTypes(t, p, 2, "x:2@21 y:1@26 z:1@34")
}

func TestTypesOfRefusesLetsOfNoType(t *testing.T) {
	for _, value := range []string{"*p", "clone p", "&p", "&mut p", "p + q", "q < p", "q == q", "h()", "g(q)", "new h()", "1 + h()", "*b", "&c", "&mut d", "&mut c", "new q", "new c", "1 + (2 + d)"} {
		text := "fn h() { } fn g(x: int) -> int { let a = 1; ret x; } fn f(p: int, q: box) { let b = p; while b { let c = &q; let d = &mut q; let e = VALUE; } } fn k() { let a = 1; }"
		p := mustRead(t, strings.ReplaceAll(text, "VALUE", value))
		if !impl.NamesRight(p) {
			t.Fatalf("NamesRight = false with %s", value)
		}
		refusesTypes(t, p, 2)
		// The other functions have their types.
		isTypes(t, p, 0, "")
		isTypes(t, p, 1, "x:1@-1 a:1@2")
		last := p.Nodes[p.Fns[3].Body].Kids[0]
		isTypes(t, p, 3, "a:1@"+strconv.Itoa(last))
		if impl.TypesRight(p) {
			t.Errorf("TypesRight = true with %s", value)
		}
	}
	// What uses a let of no type ahead; and a let that nobody uses.
	for _, text := range []string{
		"fn h() { } fn f() { let a = h(); }",
		"fn h() { } fn f() { let a = h(); let b = a; }",
		"fn h() { } fn f() { let a = 1; let b = h(); let c = 1; }",
		"fn h() { } fn f() { while 0 { if 0 { } else { let a = h(); } } }",
		"fn h() { } fn f() -> int { let a = h(); ret 1; }",
	} {
		p := mustRead(t, text)
		isTypes(t, p, 0, "")
		refusesTypes(t, p, 1)
		areTyped(t, false, text)
	}
}

func TestTypesOfRefusesPlacesThatAreNone(t *testing.T) {
	for _, p := range []impl.Program{mustRead(t, rightText), mustRead(t, filled()), {}, {Nodes: everyKind().Nodes}, {Fns: []impl.Fn{}}} {
		for _, fn := range wrongPlaces(len(p.Fns)) {
			refusesTypes(t, p, fn)
		}
	}
}

// Names that are wrong anywhere take the types from each function.
func TestTypesOfRefusesWrongNames(t *testing.T) {
	for _, text := range []string{
		"fn f(a: int) { } fn g() { print b; }",
		"fn f(a: int) { } fn g() { let a = 1; let a = 2; }",
		"fn f(a: int, a: box) { } fn g() { }",
		"fn f(a: int) { } fn g() { while 1 { let b = 1; } print b; }",
		"fn f(a: int) { do g(); } fn g() { }",
		"fn f(a: int) { } fn g() { do f(); }",
		"fn f(a: int) { } fn g() { do f(1, 2); }",
		"fn f(a: int) { } fn g() { let b = b; }",
	} {
		p := mustRead(t, text)
		for fn := range p.Fns {
			refusesTypes(t, p, fn)
		}
		if impl.TypesRight(p) {
			t.Errorf("TypesRight = true of %s", text)
		}
	}
	for _, p := range []impl.Program{everyKind(), {}, {Fns: everyKind().Fns}, {Nodes: everyKind().Nodes}} {
		for fn := range p.Fns {
			refusesTypes(t, p, fn)
		}
		if impl.TypesRight(p) {
			t.Errorf("TypesRight = true of %d nodes and %d functions", len(p.Nodes), len(p.Fns))
		}
	}
}

func TestTypesRightForms(t *testing.T) {
	for text, want := range map[string]bool{
		"fn f() { }":                                                 true,
		"fn f() -> int { ret 1; }":                                   true,
		"fn f() -> box { ret 1; }":                                   false,
		"fn f() -> box { ret new 1; }":                               true,
		"fn f() -> int { ret new 1; }":                               false,
		"fn f(a: int, b: box, c: &box) { }":                          true,
		"fn f(a: int) -> int { ret a; }":                             true,
		"fn f(a: box) -> int { ret a; }":                             false,
		"fn f(a: box) -> int { ret *a; }":                            true,
		"fn f(a: &box) -> box { ret a; }":                            false,
		"fn f(a: &box) -> box { ret clone a; }":                      true,
		"fn f(a: &mut box) -> box { ret a; }":                        false,
		"fn f(a: &mut box) -> int { ret *a; }":                       true,
		"fn f() -> int { let a = 1; ret a; }":                        true,
		"fn f() -> box { let a = 1; ret a; }":                        false,
		"fn f() -> box { let a = 1; let b = new a; ret b; }":         true,
		"fn f() -> int { let a = new 1; ret &a; }":                   false,
		"fn f() -> box { let a = new 1; ret &a; }":                   false,
		"fn f() -> box { let a = new 1; ret &mut a; }":               false,
		"fn h() { } fn f() -> int { ret h(); }":                      false,
		"fn h() { } fn f() -> box { ret h(); }":                      false,
		"fn h() -> int { ret 1; } fn f() -> int { ret h(); }":        true,
		"fn h() -> int { ret 1; } fn f() -> box { ret h(); }":        false,
		"fn h() -> box { ret new 1; } fn f() -> box { ret h(); }":    true,
		"fn h() -> box { ret new 1; } fn f() -> int { ret h(); }":    false,
		"fn h() { } fn f() { do h(); }":                              true,
		"fn h() { } fn f() { print h(); }":                           false,
		"fn h() { } fn f() { while h() { } }":                        false,
		"fn h() { } fn f() { if h() { } else { } }":                  false,
		"fn h() { } fn f(a: int) { a = h(); }":                       false,
		"fn h() { } fn f(a: box) { *a = h(); }":                      false,
		"fn h() { } fn g(a: int) { } fn f() { do g(h()); }":          false,
		"fn h() { } fn f() { let a = h(); }":                         false,
		"fn h() -> int { ret 1; } fn f() { do h(); }":                true,
		"fn h() -> box { ret new 1; } fn f() { do h(); }":            true,
		"fn h() -> box { ret new 1; } fn f() { let a = h(); }":       true,
		"fn h() -> box { ret new 1; } fn f() { print h(); }":         false,
		"fn h(a: int) { } fn f() { do h(1); }":                       true,
		"fn h(a: int) { } fn f() { do h(new 1); }":                   false,
		"fn h(a: box) { } fn f() { do h(new 1); }":                   true,
		"fn h(a: box) { } fn f() { do h(1); }":                       false,
		"fn h(a: &box) { } fn f(b: box) { do h(&b); }":               true,
		"fn h(a: &box) { } fn f(b: box) { do h(b); }":                false,
		"fn h(a: &box) { } fn f(b: box) { do h(&mut b); }":           false,
		"fn h(a: &mut box) { } fn f(b: box) { do h(&mut b); }":       true,
		"fn h(a: &mut box) { } fn f(b: box) { do h(&b); }":           false,
		"fn h(a: &box) { } fn f(b: &box) { do h(b); }":               true,
		"fn h(a: &box) { } fn f(b: &mut box) { do h(b); }":           false,
		"fn h(a: &mut box) { } fn f(b: &mut box) { do h(b); }":       true,
		"fn h(a: int, b: box) { } fn f() { do h(1, new 1); }":        true,
		"fn h(a: int, b: box) { } fn f() { do h(new 1, 1); }":        false,
		"fn h(a: int, b: box) { } fn f() { do h(1, 1); }":            false,
		"fn f() { print 1; print input; print 1 + 2; print 1 < 2; }": true,
		"fn f() { print new 1; }":                                    false,
		"fn f(a: box) { print a; }":                                  false,
		"fn f(a: box) { print *a; }":                                 true,
		"fn f(a: int) { print *a; }":                                 false,
		"fn f(a: int) { print clone a; }":                            false,
		"fn f(a: &box) { while a { } }":                              false,
		"fn f(a: &box) { while *a { } }":                             true,
		"fn f(a: &box) { if clone a { } else { } }":                  false,
		"fn f(a: int) { a = 1; a = a + 1; }":                         true,
		"fn f(a: int) { *a = 1; }":                                   false,
		"fn f(a: box) { a = new 1; *a = 1; }":                        true,
		"fn f(a: box) { a = 1; }":                                    false,
		"fn f(a: int) { a = new 1; }":                                false,
		"fn f(a: box) { *a = new 1; }":                               false,
		"fn f(a: &box, b: &box) { a = b; }":                          false,
		"fn f(a: &box) { *a = 1; }":                                  false,
		"fn f(a: &mut box, b: &mut box) { a = b; }":                  false,
		"fn f(a: &mut box) { *a = 1; }":                              true,
		"fn f(a: &mut box, b: box) { *a = b; }":                      false,
		"fn f() { let a = new 1; let b = &a; a = b; }":               false,
		"fn f() { let a = new 1; let b = &mut a; *b = 2; }":          true,
		"fn f() { let a = new 1; let b = &a; *b = 2; }":              false,
		"fn f() { let a = new 1; let b = clone a; b = a; *b = *a; }": true,
		// What was given away, and what is lent, are not asked for.
		"fn f(a: box) { let b = a; let c = a; *a = 1; a = b; }":                     true,
		"fn f() { let a = new 1; let b = &mut a; let c = &a; *b = *c; a = new 2; }": true,
		rightText: true,
	} {
		areTyped(t, want, text)
		typesHold(t, text, mustRead(t, text))
	}
}

// Each statement, with a var of each type and a value of each type, of params and of lets.
func TestTypesRightOfEachStatement(t *testing.T) {
	steps := map[string]func(left, right int) bool{
		"x = y;":                       func(left, right int) bool { return left == right && left <= impl.TyBox },
		"*x = y;":                      func(left, right int) bool { return (left == impl.TyBox || left == impl.TyMut) && right == impl.TyInt },
		"let z = y;":                   func(int, int) bool { return true },
		"print y;":                     func(_, right int) bool { return right == impl.TyInt },
		"while y { }":                  func(_, right int) bool { return right == impl.TyInt },
		"if y { } else { }":            func(_, right int) bool { return right == impl.TyInt },
		"do h(y);":                     func(left, right int) bool { return left == right },
		"do h2(1, y);":                 func(left, right int) bool { return left == right },
		"let z = h(y);":                func(left, right int) bool { return left == right },
		"print h(y);":                  func(left, right int) bool { return left == right },
		"x = h(y);":                    func(left, right int) bool { return left == right && left == impl.TyInt },
		"x = v();":                     func(int, int) bool { return false },
		"*x = v();":                    func(int, int) bool { return false },
		"let z = v();":                 func(int, int) bool { return false },
		"print v();":                   func(int, int) bool { return false },
		"do v();":                      func(int, int) bool { return true },
		"while 1 { print y; }":         func(_, right int) bool { return right == impl.TyInt },
		"if 1 { x = y; } else { }":     func(left, right int) bool { return left == right && left <= impl.TyBox },
		"if 1 { } else { do h(y); }":   func(left, right int) bool { return left == right },
		"if 1 { let z = *y; } else {}": func(_, right int) bool { return right != impl.TyInt },
		"while 1 { let z = clone y; }": func(_, right int) bool { return right != impl.TyInt },
		"let z = &y;":                  func(_, right int) bool { return right == impl.TyBox },
		"let z = &mut y;":              func(_, right int) bool { return right == impl.TyBox },
		"let z = new y;":               func(_, right int) bool { return right == impl.TyInt },
		"let z = 1 + y;":               func(_, right int) bool { return right == impl.TyInt },
		"let z = x == y;":              func(left, right int) bool { return left == right && left == impl.TyInt },
		"let z = x < y;":               func(left, right int) bool { return left == right && left == impl.TyInt },
	}
	values := []string{"", "1", "new 1", "&k", "&mut k"}
	for step, want := range steps {
		for _, left := range allTypes() {
			for _, right := range allTypes() {
				x, y := typeWords()[left], typeWords()[right]
				called := "fn v() { } fn h(p: " + x + ") -> int { ret 1; } fn h2(q: int, p: " + x + ") { } "
				areTyped(t, want(left, right), called+"fn f(x: "+x+", y: "+y+") { "+step+" }")
				areTyped(t, want(left, right), called+"fn f(k: box) { let x = "+values[left]+"; let y = "+values[right]+"; "+step+" }")
			}
		}
	}
}

func TestTypesRightOfRets(t *testing.T) {
	for value, letter := range valueLetters() {
		for res, word := range map[int]string{impl.TyInt: "int", impl.TyBox: "box"} {
			text := calledText + "fn last(b: box, r: &box, m: &mut box) -> " + word + " { let i = 1; ret " + value + "; }"
			p := mustRead(t, text)
			// Here n and x are nobody's.
			want := impl.NamesRight(p) && typeLetters[res:res+1] == letter
			if got := impl.TypesRight(p); got != want {
				t.Errorf("TypesRight = %v of a Ret %s of a function of %s", got, value, word)
			}
		}
	}
}

func TestTypesRightPlaceByPlace(t *testing.T) {
	areTyped(t, true, filled())
	lets := map[string]bool{"[V0]": true, "[V2]": true, "[V4]": true, "[V5]": true, "[V6]": true}
	for value, letter := range map[string]string{
		"p": "i", "q": "b", "*q": "i", "&q": "r", "&mut q": "m", "clone q": "b", "new p": "b", "g(p)": "i", "p + *q": "i", "p < 1": "i", "*q == p": "i", "input": "i", "0": "i", "new (1 + *q)": "b", "g(g(*q))": "i",
		"*p": "n", "&p": "n", "&mut p": "n", "clone p": "n", "new q": "n", "g(q)": "n", "1 + q": "n", "q < 1": "n", "q == q": "n", "new new 1": "n", "g(&q)": "n", "1 + (2 + q)": "n", "g(g(q))": "n", "new (1 + q)": "n",
	} {
		for _, v := range valueSpots() {
			want := letter == "i" || lets[v.mark] && letter != "n"
			areTyped(t, want, filled(v.mark, value))
			p := mustRead(t, filled(v.mark, value))
			// A wrong statement takes the types from no var.
			if list, ok := impl.TypesOf(p, 1); ok != (letter != "n" || !lets[v.mark]) || ok && len(list) != 7 {
				t.Errorf("TypesOf = %s, %v of %s", varsTold(list), ok, filled(v.mark, value))
			}
		}
		for _, s := range stepSpots() {
			areTyped(t, letter != "n", filled(s.mark, "let z = "+value+";"))
			steps := []string{"print N;", "while N { }", "if N { } else { }", "p = N;", "*q = N;", "do g(N);", "let y = new N;", "let y = 1 + N;"}
			if s.block != "/then/loop/" {
				// There they would be too deep.
				steps = append(steps, "while 0 { print N; }", "if 0 { } else { p = N; }", "if 0 { do g(N); } else { }")
			}
			for _, step := range steps {
				areTyped(t, letter == "i", filled(s.mark, strings.ReplaceAll(step, "N", around(1, "(", value, ")"))))
			}
			areTyped(t, letter == "b", filled(s.mark, "q = "+value+";"))
			areTyped(t, false, filled(s.mark, "*p = "+value+";"))
		}
	}
}

// Of eight functions just one is not right.
func TestTypesRightOfManyFunctions(t *testing.T) {
	for _, wrong := range []string{"print new 1;", "let a = *p;", "p = new 1;", "*p = 1;", "do f0(new 1);", "while 1 { if 1 { } else { print &q; } }", "q = p;"} {
		for at := range 9 {
			for count := max(at, 2); count <= 8; count++ {
				text := "fn f0(p: int) -> int { ret p; } "
				for k := 1; k < count; k++ {
					text += "fn f" + strconv.Itoa(k) + "(p: int, q: box) -> int { "
					if k == at {
						text += wrong + " "
					}
					text += "ret f0(p); } "
				}
				areTyped(t, at == 0 || at >= count, text)
			}
		}
	}
	// Each function of its own Res and Params.
	for at := range 8 {
		text := ""
		for k := range 8 {
			ret := "new " + strconv.Itoa(k)
			if k == at {
				ret = strconv.Itoa(k)
			}
			text += "fn f" + strconv.Itoa(k) + "() -> box { ret " + ret + "; } "
		}
		areTyped(t, false, text)
		areTyped(t, true, strings.Replace(text, "() -> box { ret "+strconv.Itoa(at)+";", "() -> int { ret "+strconv.Itoa(at)+";", 1))
	}
}

// The order of the nodes says which let is typed first, since its place counts.
func TestTypesByTheOrderOfNodes(t *testing.T) {
	// let a = first; let b = second; the nodes of b stand ahead of those of a.
	build := func(first []impl.Node, second impl.Node) impl.Program {
		nodes := []impl.Node{second, namedNode(impl.NdLet, "b", 0)}
		for _, n := range first {
			for k := range n.Kids {
				n.Kids[k] += 2
			}
			nodes = append(nodes, n)
		}
		let := len(nodes)
		nodes = append(nodes, namedNode(impl.NdLet, "a", let-1), node(impl.NdBlock, let, 1))
		return impl.Program{Nodes: nodes, Fns: []impl.Fn{{Name: "f", Body: let + 1, Ret: -1}}}
	}
	number := func() []impl.Node { return []impl.Node{numNode(1)} }
	box := func() []impl.Node { return []impl.Node{numNode(1), node(impl.NdNew, 0)} }
	for _, first := range [][]impl.Node{number(), box()} {
		p := build(first, namedNode(impl.NdVar, "a"))
		if !impl.NamesRight(p) {
			t.Fatal("the names of the test's program are not right")
		}
		refusesTypes(t, p, 0)
		if impl.TypesRight(p) {
			t.Error("TypesRight = true of a let that uses one whose node stands behind")
		}
	}
	// What uses none may stand anywhere.
	isTypes(t, build(box(), numNode(7)), 0, "b:1@1 a:2@4")
	if !impl.TypesRight(build(box(), numNode(7))) {
		t.Error("TypesRight = false of lets in another order")
	}
	// A look at what has no type yet is a number, as of all that is no TyInt; whether it may be looked at is asked behind.
	for kind, want := range map[int]string{impl.NdRead: "b:1@1 a:2@4", impl.NdClone: "b:2@1 a:2@4"} {
		isTypes(t, build(box(), namedNode(kind, "a")), 0, want)
		if !impl.TypesRight(build(box(), namedNode(kind, "a"))) {
			t.Errorf("TypesRight = false of a use of Kind %d of a box", kind)
		}
		if impl.TypesRight(build(number(), namedNode(kind, "a"))) {
			t.Errorf("TypesRight = true of a use of Kind %d of a number", kind)
		}
	}
	for _, kind := range []int{impl.NdLend, impl.NdMut} {
		refusesTypes(t, build(box(), namedNode(kind, "a")), 0)
	}
	// Statements and Rets are asked when all lets have their types, wherever they stand.
	nodes := []impl.Node{namedNode(impl.NdVar, "a"), node(impl.NdPrint, 0), namedNode(impl.NdVar, "a"), numNode(1), namedNode(impl.NdLet, "a", 3), node(impl.NdBlock, 4, 1)}
	p := impl.Program{Nodes: nodes, Fns: []impl.Fn{{Name: "f", Res: impl.TyInt, Body: 5, Ret: 2}}}
	isTypes(t, p, 0, "a:1@4")
	if !impl.TypesRight(p) {
		t.Error("TypesRight = false of a statement whose node stands ahead of the let")
	}
	p.Fns[0].Res = impl.TyBox
	if impl.TypesRight(p) {
		t.Error("TypesRight = true of another Ret")
	}
}

func TestTypesWithNodesElsewhere(t *testing.T) {
	d := dice(53)
	right, wrong := 0, 0
	for _, text := range []string{rightText, filled(), filled("[V0]", "new p", "[S12]", "print *a;", "[V6]", "&a", "[V8]", "*e"), filled("[V2]", "q", "[S4]", "print b;")} {
		p := mustRead(t, text)
		for range 60 {
			if typesHold(t, text, onlyReached(elsewhere(&d, p))) {
				right++
			} else {
				wrong++
			}
		}
	}
	if right < 60 || wrong < 60 {
		t.Errorf("%d right ones, %d wrong ones: the test tells little", right, wrong)
	}
}

func TestTypesAtTheLimits(t *testing.T) {
	// A chain of twelve lets, each of which uses the one ahead; a wrong one anywhere takes the types from all.
	for at := -1; at < 12; at++ {
		text, want := "", []string{}
		for k := range 12 {
			value := "new 1"
			if k > 0 {
				value = "clone x" + strconv.Itoa(k-1)
			}
			if k == at {
				value = "clone n"
			}
			text += "let x" + strconv.Itoa(k) + " = " + value + "; "
			want = append(want, "x"+strconv.Itoa(k)+":2@"+strconv.Itoa(2+2*k))
		}
		p := mustRead(t, "fn f(n: int) { "+text+"}")
		if at < 0 {
			isTypes(t, p, 0, "n:1@-1 "+strings.Join(want, " "))
		} else {
			refusesTypes(t, p, 0)
		}
		areTyped(t, at < 0, "fn f(n: int) { "+text+"}")
	}
	// As many nodes as there may be, and one more; and as many lets.
	if !impl.TypesRight(programOf300(0)) || impl.TypesRight(programOf300(1)) {
		t.Error("TypesRight is wrong of 300 or 301 nodes")
	}
	many := programOf300(0)
	lets := 0
	for k, n := range many.Nodes {
		if n.Kind == impl.NdPrint {
			many.Nodes[k] = namedNode(impl.NdLet, "x"+strconv.Itoa(lets), n.Kids...)
			lets++
		}
	}
	list, ok := impl.TypesOf(many, 0)
	if !ok || len(list) != lets || !impl.TypesRight(many) {
		t.Errorf("TypesOf has %d of %d lets, %v", len(list), lets, ok)
	}
	for k, v := range list {
		if v.Type != impl.TyInt {
			t.Errorf("the let %d is of type %d", k, v.Type)
		}
	}
	many.Nodes[many.Nodes[list[len(list)-1].Node].Kids[0]] = namedNode(impl.NdVar, list[len(list)-1].Name)
	refusesTypes(t, many, 0)
	// Values as deep as may be, in a let: a block and the let stand around them.
	for deep := 6; deep <= 10; deep++ {
		p, ok := impl.ReadProgram("fn f(b: box) { let a = " + around(deep-3, "1 + (", "*b", ")") + "; let c = new a; }")
		if ok != (deep <= 10) || impl.TypesRight(p) != ok {
			t.Errorf("TypesRight = %v of a depth of %d", !ok, deep)
		}
	}
}

func TestTypesRefuseEachField(t *testing.T) {
	base := mustRead(t, rightText)
	if !impl.TypesRight(base) {
		t.Fatal("the types of the test's program are not right")
	}
	wrong := map[string]func(p *impl.Program){
		"no nodes":         func(p *impl.Program) { p.Nodes = nil },
		"no functions":     func(p *impl.Program) { p.Fns = nil },
		"a node too many":  func(p *impl.Program) { p.Nodes = append(p.Nodes, numNode(1)) },
		"a wrong node":     func(p *impl.Program) { p.Nodes = append(p.Nodes, impl.Node{}) },
		"a function twice": func(p *impl.Program) { p.Fns = append(p.Fns, p.Fns[2]) },
		"the last one gone": func(p *impl.Program) {
			p.Fns = p.Fns[:2]
		},
		"the first one gone": func(p *impl.Program) { p.Fns = p.Fns[1:] },
		"another order":      func(p *impl.Program) { p.Fns[0], p.Fns[2] = p.Fns[2], p.Fns[0] },
	}
	for fn := range base.Fns {
		where := "function " + strconv.Itoa(fn) + ": "
		wrong[where+"no name"] = func(p *impl.Program) { p.Fns[fn].Name = "" }
		wrong[where+"a key word"] = func(p *impl.Program) { p.Fns[fn].Name = "let" }
		wrong[where+"no Body"] = func(p *impl.Program) { p.Fns[fn].Body = -1 }
		wrong[where+"a Body behind all"] = func(p *impl.Program) { p.Fns[fn].Body = len(p.Nodes) }
		wrong[where+"another Ret"] = func(p *impl.Program) { p.Fns[fn].Ret = 0 }
		wrong[where+"a Ret below"] = func(p *impl.Program) { p.Fns[fn].Ret = -2 }
		for _, res := range append(oddTypes(), allTypes()...) {
			if res != base.Fns[fn].Res {
				wrong[where+"Res "+strconv.Itoa(res)] = func(p *impl.Program) { p.Fns[fn].Res = res }
			}
		}
		wrong[where+"a param too many"] = func(p *impl.Program) {
			p.Fns[fn].Params = append(p.Fns[fn].Params, impl.Param{Name: "pp", Type: impl.TyInt}, impl.Param{Name: "qq", Type: impl.TyInt}, impl.Param{Name: "rr", Type: impl.TyInt}, impl.Param{Name: "ss", Type: impl.TyInt})
		}
		for at, param := range base.Fns[fn].Params {
			wrong[where+"a wrong name of a param"] = func(p *impl.Program) { p.Fns[fn].Params[at].Name = "let" }
			for _, ty := range append(oddTypes(), impl.TyNone, impl.TyInt, impl.TyBox, impl.TyRef, impl.TyMut) {
				if ty != param.Type {
					wrong[where+"param "+strconv.Itoa(at)+" of type "+strconv.Itoa(ty)] = func(p *impl.Program) { p.Fns[fn].Params[at].Type = ty }
				}
			}
		}
	}
	for what, turn := range wrong {
		p := cloneProgram(base)
		turn(&p)
		if impl.TypesRight(p) {
			t.Errorf("TypesRight = true: %s", what)
		}
		typesHold(t, what, p)
	}
}

// typedText is a program whose types are right, with a var of each type and each statement.
const typedText = `fn add(a: int, b: &box) -> int {
  let c = a + *b;
  ret c;
}
fn put(m: &mut box, n: int) {
  let k = m;
  *k = n < 3;
}
fn main() {
  let a = new input;
  let r = &a;
  let s = r;
  let n = add(*s, r) == add(1, &a);
  let w = &mut a;
  do put(w, n);
  if n {
    n = n + 1;
    a = clone s;
  } else {
    *a = add(add(n, &a), &a);
    do add(2, s);
  }
  while 1 < *a {
    print *a;
    let b = a;
    a = b;
  }
}
`

func TestTypesOfChangedPrograms(t *testing.T) {
	right, untyped, wrong := 0, 0, 0
	count := func(what string, p impl.Program) {
		switch {
		case typesHold(t, what, p):
			right++
		case impl.NamesRight(p):
			untyped++
		default:
			wrong++
		}
	}
	for _, text := range []string{rightText, filled("[S12]", "print e;", "[V4]", "g(p)")} {
		base := mustRead(t, text)
		if !impl.TypesRight(base) {
			t.Fatalf("TypesRight = false of %s", text)
		}
		changesOf(base, count)
	}
	if right < 100 || untyped < 50 || wrong < 1000 {
		t.Errorf("%d right ones, %d with wrong types, %d wrong ones: the test tells little", right, untyped, wrong)
	}
}

// Each value of a right program becomes each other use of each name, and each name each other one.
func TestTypesWithOtherUses(t *testing.T) {
	right, wrong := 0, 0
	for _, text := range []string{rightText, typedText, filled("[V0]", "new p", "[V6]", "&a", "[V8]", "*e")} {
		base := mustRead(t, text)
		if !impl.TypesRight(base) {
			t.Fatalf("TypesRight = false of %s", text)
		}
		names := map[string]bool{}
		for _, n := range base.Nodes {
			names[n.Name] = true
		}
		delete(names, "")
		see := func(p impl.Program) {
			if typesHold(t, programTold(p), p) {
				right++
			} else {
				wrong++
			}
		}
		for k, n := range base.Nodes {
			if n.Kind <= impl.NdInput {
				for kind := range usesByType() {
					for name := range names {
						p := cloneProgram(base)
						p.Nodes[k] = namedNode(kind, name)
						see(p)
					}
				}
				for _, one := range []impl.Node{numNode(3), node(impl.NdInput)} {
					p := cloneProgram(base)
					p.Nodes[k] = one
					see(p)
				}
			} else if n.Name != "" {
				for name := range names {
					p := cloneProgram(base)
					p.Nodes[k].Name = name
					see(p)
				}
			}
		}
		for fn := range base.Fns {
			for at := range base.Fns[fn].Params {
				for _, ty := range allTypes() {
					p := cloneProgram(base)
					p.Fns[fn].Params[at].Type = ty
					see(p)
				}
			}
		}
	}
	if right < 100 || wrong < 1000 {
		t.Errorf("%d right ones, %d wrong ones: the test tells little", right, wrong)
	}
}

// A typist makes up functions whose types are mostly right: it makes each value of the type that is wanted there.
type typist struct {
	planter
	dice
	fns  []impl.Fn
	seen []impl.Var
	// begun counts the names of a function; wrong is how seldom a value of another type is made; slips counts these.
	begun, wrong, slips int
	// made has the type of each value as it was wanted.
	made map[int]int
}

// oneOf gives the name of a var in sight whose type holds; empty without one.
func (m *typist) oneOf(types ...int) string {
	var names []string
	for _, v := range m.seen {
		if slices.Contains(types, v.Type) {
			names = append(names, v.Name)
		}
	}
	if len(names) == 0 {
		return ""
	}
	return names[m.below(len(names))]
}

func (m *typist) begin(ty int) string {
	name := "v" + strconv.Itoa(m.begun)
	m.begun++
	m.seen = append(m.seen, impl.Var{Name: name, Type: ty})
	return name
}

func (m *typist) value(ty, deep int) int {
	if m.below(m.wrong) == 0 {
		m.slips++
		return m.right(1+m.below(4), deep)
	}
	at := m.right(ty, deep)
	m.made[at] = ty
	return at
}

// right makes a value of this type; there is always a box in sight.
func (m *typist) right(ty, deep int) int {
	if deep > 1 && ty <= impl.TyBox && m.below(4) == 0 {
		if at := m.called(ty, deep); at >= 0 {
			return at
		}
	}
	if name := m.oneOf(ty); name != "" && m.below(3) == 0 {
		return m.put(namedNode(impl.NdVar, name))
	}
	switch {
	case ty == impl.TyRef:
		return m.put(namedNode(impl.NdLend, m.oneOf(impl.TyBox)))
	case ty == impl.TyMut:
		return m.put(namedNode(impl.NdMut, m.oneOf(impl.TyBox)))
	case ty == impl.TyBox && deep > 1 && m.below(2) == 0:
		return m.put(node(impl.NdNew, m.value(impl.TyInt, deep-1)))
	case ty == impl.TyBox:
		return m.put(namedNode(impl.NdClone, m.oneOf(impl.TyBox, impl.TyRef, impl.TyMut)))
	}
	return m.number(deep)
}

func (m *typist) number(deep int) int {
	switch pick := m.below(6); {
	case pick < 3 && deep > 1:
		left := m.value(impl.TyInt, deep-1)
		return m.put(node(impl.NdAdd+pick, left, m.value(impl.TyInt, deep-1)))
	case pick == 3:
		return m.put(namedNode(impl.NdRead, m.oneOf(impl.TyBox, impl.TyRef, impl.TyMut)))
	case pick == 4:
		return m.put(node(impl.NdInput))
	}
	return m.num(m.below(9))
}

// called makes a call of a function of this Res, or of any one with a ty below 0; -1 without one.
func (m *typist) called(ty, deep int) int {
	var fns []impl.Fn
	for _, fn := range m.fns {
		if ty < 0 || fn.Res == ty {
			fns = append(fns, fn)
		}
	}
	if len(fns) == 0 {
		return -1
	}
	fn := fns[m.below(len(fns))]
	var kids []int
	for _, param := range fn.Params {
		kids = append(kids, m.value(param.Type, deep-1))
	}
	return m.put(namedNode(impl.NdCall, fn.Name, kids...))
}

func (m *typist) let(ty, deep int) int {
	at := m.value(ty, deep)
	return m.put(namedNode(impl.NdLet, m.begin(ty), at))
}

// step makes a statement that is so deep at most.
func (m *typist) step(deep int) int {
	below := min(deep-1, 3)
	switch m.below(9) {
	case 0, 1:
		return m.let(1+m.below(4), below)
	case 2:
		ty := 1 + m.below(2)
		if name := m.oneOf(ty); name != "" {
			return m.put(namedNode(impl.NdSet, name, m.value(ty, below)))
		}
	case 3:
		return m.put(namedNode(impl.NdStore, m.oneOf(impl.TyBox, impl.TyMut), m.value(impl.TyInt, below)))
	case 4:
		if deep > 3 {
			asked := m.value(impl.TyInt, 2)
			then := m.within(deep)
			return m.put(node(impl.NdIf, asked, then, m.within(deep)))
		}
	case 5:
		if deep > 3 {
			asked := m.value(impl.TyInt, 2)
			return m.put(node(impl.NdWhile, asked, m.within(deep)))
		}
	case 6, 7:
		if at := m.called(-1, below); at >= 0 {
			return m.put(node(impl.NdDo, at))
		}
	}
	return m.put(node(impl.NdPrint, m.value(impl.TyInt, below)))
}

func (m *typist) within(deep int) int {
	seen := slices.Clone(m.seen)
	var steps []int
	for range m.below(4) {
		steps = append(steps, m.step(deep-2))
	}
	m.seen = seen
	return m.block(steps...)
}

func (m *typist) program() impl.Program {
	m.made = map[int]int{}
	for k := range 1 + m.below(4) {
		m.seen, m.begun = nil, 0
		fn := impl.Fn{Name: "f" + strconv.Itoa(k), Ret: -1}
		for range m.below(4) {
			ty := 1 + m.below(4)
			fn.Params = append(fn.Params, impl.Param{Name: m.begin(ty), Type: ty})
		}
		steps := []int{m.put(namedNode(impl.NdLet, m.begin(impl.TyBox), m.put(node(impl.NdNew, m.num(k)))))}
		for range m.below(6) {
			steps = append(steps, m.step(9))
		}
		fn.Body = m.block(steps...)
		if fn.Res = m.below(3); fn.Res != impl.TyNone {
			fn.Ret = m.value(fn.Res, 3)
		}
		m.fns = append(m.fns, fn)
	}
	return impl.Program{Nodes: m.nodes, Fns: m.fns}
}

func TestTypesOfAnyPrograms(t *testing.T) {
	right, wrong, most := 0, 0, 0
	for start := range 900 {
		m := typist{dice: dice(start), wrong: []int{1000000, 60, 25}[start%3]}
		p := m.program()
		if len(p.Nodes) > 120 {
			continue
		}
		what := "start " + strconv.Itoa(start)
		if !typesHold(t, what, p) {
			if m.slips == 0 {
				t.Fatalf("TypesRight = false without a slip: %s", what)
			}
			wrong++
			continue
		}
		right, most = right+1, max(most, len(p.Nodes))
		eachValueHasOneType(t, what, p, m.made)
	}
	if right < 300 || wrong < 150 || most < 80 {
		t.Errorf("%d right ones of at most %d nodes, %d wrong ones: the test tells little", right, most, wrong)
	}
}

// eachValueHasOneType asks of a right program whether each value has a type but what is called by an NdDo, and that which it was made with.
func eachValueHasOneType(t *testing.T, what string, p impl.Program, made map[int]int) {
	t.Helper()
	mayBeNone := map[int]bool{}
	for _, n := range p.Nodes {
		if n.Kind == impl.NdDo {
			mayBeNone[n.Kids[0]] = true
		}
	}
	for fn := range p.Fns {
		list, ok := impl.TypesOf(p, fn)
		if !ok {
			t.Fatalf("TypesOf(.., %d) = false: %s", fn, what)
		}
		for k := range standing(p, p.Fns[fn].Body, p.Fns[fn].Ret) {
			if !isValueKind(p.Nodes[k].Kind) {
				continue
			}
			got := impl.TypeOf(p, list, k)
			if got < impl.TyInt && !mayBeNone[k] || got > impl.TyMut {
				t.Fatalf("TypeOf(.., %d) = %d: %s", k, got, what)
			}
			if want, is := made[k]; is && got != want {
				t.Fatalf("TypeOf(.., %d) = %d; it was made as %d: %s", k, got, want, what)
			}
		}
	}
}

func TestTypesOfAnyNodes(t *testing.T) {
	d := dice(59)
	typed, none := 0, 0
	for range 6000 {
		p := impl.Program{Nodes: anyNodes(&d, 1+d.below(20))}
		for k := range 1 + d.below(3) {
			p.Fns = append(p.Fns, impl.Fn{Name: "f" + strconv.Itoa(k), Res: d.below(3), Body: d.below(len(p.Nodes)+2) - 1, Ret: d.below(len(p.Nodes)+2) - 1})
			for at := range d.below(3) {
				p.Fns[k].Params = append(p.Fns[k].Params, impl.Param{Name: []string{"a", "b"}[at], Type: 1 + d.below(4)})
			}
		}
		for k := range p.Nodes {
			if p.Nodes[k].Name != "" {
				p.Nodes[k].Name = []string{"a", "b", "f0", "f1"}[d.below(4)]
			}
		}
		typesHold(t, "any nodes", p)
		list := []impl.Var{{Name: "a", Type: d.below(7) - 1}, {Name: "b", Type: d.below(7) - 1}, {Name: "a", Type: d.below(5)}, {Name: "f0", Type: impl.TyInt}}
		deep := deepCount(p.Nodes)
		for k := range p.Nodes {
			want := impl.TyNone
			if k < deep {
				want = valueByRule(p, list, k)
			}
			if isType(t, p, list, k, want); t.Failed() {
				t.Fatalf("of the nodes %s", programTold(p))
			}
			if want == impl.TyNone {
				none++
			} else {
				typed++
			}
		}
	}
	if typed < 5000 || none < 5000 {
		t.Errorf("%d values with a type, %d nodes without one: the test tells little", typed, none)
	}
}

func TestCopyType(t *testing.T) {
	for ty, want := range []bool{false, true, false, true, false} {
		if got := impl.CopyType(ty); got != want {
			t.Errorf("CopyType(%d) = %v", ty, got)
		}
	}
	if !impl.CopyType(impl.TyInt) || !impl.CopyType(impl.TyRef) || impl.CopyType(impl.TyNone) || impl.CopyType(impl.TyBox) || impl.CopyType(impl.TyMut) {
		t.Error("CopyType is wrong of a type by its name")
	}
	for _, ty := range append(oddTypes(), 257, 259, 1<<32+1, 1<<32+3, 1<<16+1, math.MinInt+1, math.MinInt+3, -3, 7, 9, 11) {
		if impl.CopyType(ty) {
			t.Errorf("CopyType(%d) = true", ty)
		}
	}
}

func TestTypesKeepNothing(t *testing.T) {
	right, wrong := mustRead(t, typedText), mustRead(t, filled("[V8]", "q"))
	list, _ := impl.TypesOf(right, 2)
	told := varsTold(list)
	for range 20 {
		impl.TypesRight(everyKind())
		impl.TypesRight(impl.Program{})
		if impl.TypesRight(wrong) || !impl.TypesRight(right) {
			t.Fatal("TypesRight hangs on what was asked ahead")
		}
		isTypes(t, right, 2, told)
		refusesTypes(t, right, 3)
		isType(t, right, nil, 0, impl.TyNone)
		isType(t, right, []impl.Var{{Name: "a", Type: impl.TyMut}}, 0, impl.TyMut)
		isType(t, right, []impl.Var{{Name: "a", Type: impl.TyInt}}, 0, impl.TyInt)
	}
}

func TestTypeArgumentsStayAsTheyAre(t *testing.T) {
	bad := mustRead(t, typedText)
	bad.Nodes[9].Num = 1
	for _, base := range []impl.Program{mustRead(t, typedText), mustRead(t, rightText), bad, everyKind(), mustRead(t, filled("[V8]", "q"))} {
		p := roomyProgram(base)
		list := append(fiveVars(), impl.Var{Name: "a", Type: impl.TyBox}, impl.Var{Name: "spare", Type: -77})
		before := slices.Clone(list)
		impl.TypesRight(p)
		for fn := -1; fn <= len(p.Fns); fn++ {
			impl.TypesOf(p, fn)
		}
		for k := -1; k <= len(p.Nodes); k++ {
			impl.TypeOf(p, list[:len(list)-1], k)
			impl.TypeOf(p, list[:0], k)
		}
		if !untouched(p.Nodes, base.Nodes) || !samePrograms(p, base) || p.Fns[:len(p.Fns)+1][len(p.Fns)].Res != -77 {
			t.Error("a program that was handed in is changed")
		}
		for _, fn := range p.Fns {
			if fn.Params[:len(fn.Params)+1][len(fn.Params)].Type != -77 {
				t.Error("the room behind the Params of a program that was handed in is changed")
			}
		}
		if !slices.Equal(list, before) {
			t.Error("a list that was handed in is changed")
		}
	}
}

func TestTypeAnswersAreNewMemory(t *testing.T) {
	p := roomyProgram(mustRead(t, typedText))
	given := spansOf(p)
	for fn := range p.Fns {
		list := slices.Clone(given)
		for range 2 {
			vars, ok := impl.TypesOf(p, fn)
			if !ok || len(vars) == 0 {
				t.Fatalf("TypesOf(.., %d) = %s, %v", fn, varsTold(vars), ok)
			}
			list = append(list, spanOf(vars))
			for _, v := range vars {
				list = append(list, textSpan(v.Name))
			}
		}
		if meet(list) {
			t.Errorf("answers of the function %d share memory", fn)
		}
	}
}
