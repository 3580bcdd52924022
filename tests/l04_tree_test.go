package tests

import (
	"math"
	"regexp"
	"slices"
	"strconv"
	"strings"
	"testing"
	"unsafe"

	"loop.example/g00423/impl"
)

const firstKind, lastKind = impl.NdNum, impl.NdBlock

func node(kind int, kids ...int) impl.Node { return impl.Node{Kind: kind, Kids: kids} }

func numNode(n int) impl.Node { return impl.Node{Kind: impl.NdNum, Num: n} }

func namedNode(kind int, name string, kids ...int) impl.Node {
	return impl.Node{Kind: kind, Name: name, Kids: kids}
}

func hasName(kind int) bool {
	return slices.Contains([]int{impl.NdVar, impl.NdRead, impl.NdClone, impl.NdLend, impl.NdMut, impl.NdCall, impl.NdLet, impl.NdSet, impl.NdStore}, kind)
}

// ofKind gives a node of this Kind with a Name if it has one.
func ofKind(kind int, kids ...int) impl.Node {
	if hasName(kind) {
		return namedNode(kind, "a", kids...)
	}
	return node(kind, kids...)
}

// kidPattern gives the pattern of the Kids of a Kind, a letter each: c a call, v another value, s a statement, b a block, x none of these.
func kidPattern(kind int) string {
	switch kind {
	case impl.NdNum, impl.NdVar, impl.NdRead, impl.NdClone, impl.NdLend, impl.NdMut, impl.NdInput:
		return `^$`
	case impl.NdNew, impl.NdLet, impl.NdSet, impl.NdStore, impl.NdPrint:
		return `^[vc]$`
	case impl.NdAdd, impl.NdLess, impl.NdSame:
		return `^[vc][vc]$`
	case impl.NdCall:
		return `^[vc]{0,3}$`
	case impl.NdIf:
		return `^[vc]bb$`
	case impl.NdWhile:
		return `^[vc]b$`
	case impl.NdDo:
		return `^c$`
	case impl.NdBlock:
		return `^s{0,12}$`
	}
	return `^n$`
}

func kidLetter(kind int) byte {
	const letters = "xvvvvvvvvvvvcsssssssb"
	if kind < 0 || kind >= len(letters) {
		return 'x'
	}
	return letters[kind]
}

var kidPatterns = func() map[int]*regexp.Regexp {
	list := map[int]*regexp.Regexp{}
	for kind := firstKind; kind <= lastKind; kind++ {
		list[kind] = regexp.MustCompile(kidPattern(kind))
	}
	return list
}()

// nodeByRule is NodeOk, by patterns.
func nodeByRule(nodes []impl.Node, k int) bool {
	if k < 0 || k >= len(nodes) || kidPatterns[nodes[k].Kind] == nil {
		return false
	}
	n := nodes[k]
	seen := map[int]bool{}
	var letters []byte
	for _, kid := range n.Kids {
		if kid < 0 || kid >= k || seen[kid] {
			return false
		}
		seen[kid] = true
		letters = append(letters, kidLetter(nodes[kid].Kind))
	}
	if n.Kind == impl.NdNum && (n.Num < 0 || n.Num > 1000000000) || n.Kind != impl.NdNum && n.Num != 0 {
		return false
	}
	if hasName(n.Kind) && !impl.NameOk(n.Name) || !hasName(n.Kind) && n.Name != "" {
		return false
	}
	return kidPatterns[n.Kind].Match(letters)
}

// deepByRule is DeepOf, asked of each node anew.
func deepByRule(nodes []impl.Node, k int) int {
	if k < 0 || k >= len(nodes) {
		return 0
	}
	for at := 0; at <= k; at++ {
		if !nodeByRule(nodes, at) {
			return 0
		}
	}
	for at := 0; at <= k; at++ {
		if wayDown(nodes, at) > 10 {
			return 0
		}
	}
	return wayDown(nodes, k)
}

func wayDown(nodes []impl.Node, k int) int {
	longest := 0
	for _, kid := range nodes[k].Kids {
		longest = max(longest, wayDown(nodes, kid))
	}
	return longest + 1
}

// treeText tells a node and all below it, without places; what is come to twice is told twice.
func treeText(nodes []impl.Node, k int) string {
	n := nodes[k]
	text := "(" + strconv.Itoa(n.Kind) + " " + strconv.Itoa(n.Num) + " " + strconv.Quote(n.Name)
	for _, kid := range n.Kids {
		text += treeText(nodes, kid)
	}
	return text + ")"
}

// treeSize is the number of nodes of a copy.
func treeSize(nodes []impl.Node, k int) int { return strings.Count(treeText(nodes, k), "(") }

func isBelow(nodes []impl.Node, top, k int) bool {
	return top == k || slices.ContainsFunc(nodes[top].Kids, func(kid int) bool { return isBelow(nodes, kid, k) })
}

func sameNode(a, b impl.Node) bool {
	return a.Kind == b.Kind && a.Num == b.Num && a.Name == b.Name && slices.Equal(a.Kids, b.Kids)
}

func sameNodes(a, b []impl.Node) bool { return slices.EqualFunc(a, b, sameNode) }

func samePrograms(p, q impl.Program) bool {
	return sameNodes(p.Nodes, q.Nodes) && slices.EqualFunc(p.Fns, q.Fns, func(f, g impl.Fn) bool {
		return f.Name == g.Name && slices.Equal(f.Params, g.Params) && f.Res == g.Res && f.Body == g.Body && f.Ret == g.Ret
	})
}

func cloneNodes(nodes []impl.Node) []impl.Node {
	list := slices.Clone(nodes)
	for k := range list {
		list[k].Kids = slices.Clone(list[k].Kids)
	}
	return list
}

func cloneProgram(p impl.Program) impl.Program {
	q := impl.Program{Nodes: cloneNodes(p.Nodes), Fns: slices.Clone(p.Fns)}
	for k := range q.Fns {
		q.Fns[k].Params = slices.Clone(q.Fns[k].Params)
	}
	return q
}

// A planter puts nodes behind each other; each of its functions gives the new node's place.
type planter struct{ nodes []impl.Node }

func (pl *planter) put(n impl.Node) int {
	pl.nodes = append(pl.nodes, n)
	return len(pl.nodes) - 1
}

func (pl *planter) num(n int) int { return pl.put(numNode(n)) }

func (pl *planter) print() int { return pl.put(node(impl.NdPrint, pl.num(7))) }

// prints gives the places of so many statements, each of two nodes.
func (pl *planter) prints(n int) []int {
	var list []int
	for range n {
		list = append(list, pl.print())
	}
	return list
}

func (pl *planter) block(steps ...int) int { return pl.put(node(impl.NdBlock, steps...)) }

// chain gives a value so deep: numbers in calls.
func (pl *planter) chain(deep int) int {
	at := pl.num(1)
	for range deep - 1 {
		at = pl.put(namedNode(impl.NdCall, "f", at))
	}
	return at
}

// everyKind is a program of three functions with each Kind in it, its nodes in the order of Packed.
func everyKind() impl.Program {
	var pl planter
	first := pl.block()
	sum := pl.put(node(impl.NdAdd, pl.put(namedNode(impl.NdRead, "b")), pl.put(namedNode(impl.NdVar, "n"))))
	let := pl.put(namedNode(impl.NdLet, "c", pl.put(node(impl.NdNew, pl.num(0)))))
	set := pl.put(namedNode(impl.NdSet, "c", pl.put(namedNode(impl.NdClone, "b"))))
	store := pl.put(namedNode(impl.NdStore, "c", pl.put(node(impl.NdInput))))
	call := pl.put(namedNode(impl.NdCall, "one", pl.put(namedNode(impl.NdLend, "c")), pl.num(2), pl.put(namedNode(impl.NdMut, "c"))))
	second := pl.block(let, set, store, pl.put(node(impl.NdDo, call)))
	ret := pl.put(namedNode(impl.NdVar, "c"))
	less := pl.put(node(impl.NdLess, pl.num(1), pl.num(impl.MaxNumber)))
	while := pl.put(node(impl.NdWhile, less, pl.block(pl.print(), pl.print())))
	same := pl.put(node(impl.NdSame, pl.put(namedNode(impl.NdCall, "two")), pl.num(3)))
	choice := pl.put(node(impl.NdIf, same, pl.block(), pl.block(pl.print())))
	third := pl.block(while, choice)
	return impl.Program{Nodes: pl.nodes, Fns: []impl.Fn{
		{Name: "one", Params: []impl.Param{{Name: "b", Type: impl.TyRef}, {Name: "n", Type: impl.TyInt}, {Name: "m", Type: impl.TyMut}}, Res: impl.TyInt, Body: first, Ret: sum},
		{Name: "two", Params: []impl.Param{{Name: "b", Type: impl.TyBox}}, Res: impl.TyBox, Body: second, Ret: ret},
		{Name: "main", Body: third, Ret: -1},
	}}
}

// doubled is a right list of nodes in which each but the first two has both ahead of it as Kids.
func doubled(n int) []impl.Node {
	nodes := []impl.Node{numNode(1), namedNode(impl.NdVar, "a")}
	for k := 2; k < n; k++ {
		nodes = append(nodes, node(impl.NdAdd, k-2, k-1))
	}
	return nodes[:n]
}

// programOf300 has 300 nodes in one function, in the order of Packed, and so many more in its last statement.
func programOf300(more int) impl.Program {
	var pl planter
	var steps []int
	for range 11 {
		steps = append(steps, pl.put(node(impl.NdWhile, pl.num(0), pl.block(pl.prints(12)...))))
	}
	last := pl.num(5)
	for range more {
		last = pl.put(node(impl.NdNew, last))
	}
	steps = append(steps, pl.put(node(impl.NdPrint, last)))
	return impl.Program{Nodes: append(pl.nodes, node(impl.NdBlock, steps...)), Fns: []impl.Fn{{Name: "f", Body: len(pl.nodes), Ret: -1}}}
}

// A dice tells numbers that hang on its start alone.
type dice uint64

func (d *dice) below(n int) int {
	*d = *d*6364136223846793005 + 1442695040888963407
	return int(uint64(*d)>>33) % n
}

func wrongPlaces(n int) []int {
	return []int{-1, -2, n, n + 1, math.MinInt, math.MaxInt, math.MaxInt32, -impl.MaxNodes}
}

// kindLists gives all lists of these Kinds with at most so many of them.
func kindLists(kinds []int, most int) [][]int {
	list := [][]int{nil}
	for from := 0; len(list[from]) < most; from++ {
		for _, kind := range kinds {
			list = append(list, append(slices.Clone(list[from]), kind))
		}
	}
	return list
}

// overKinds gives a list of nodes of these Kinds, and behind them one with all of them as its Kids.
func overKinds(top impl.Node, kinds []int) []impl.Node {
	var nodes []impl.Node
	for k, kind := range kinds {
		nodes = append(nodes, ofKind(kind))
		top.Kids = append(top.Kids, k)
	}
	return append(nodes, top)
}

func TestNodeOkOfEachKind(t *testing.T) {
	p := everyKind()
	found := map[int]bool{}
	for k, n := range p.Nodes {
		found[n.Kind] = true
		if !impl.NodeOk(p.Nodes, k) {
			t.Errorf("NodeOk(.., %d) = false of %v", k, n)
		}
	}
	for kind := firstKind; kind <= lastKind; kind++ {
		if !found[kind] {
			t.Errorf("no node of Kind %d", kind)
		}
	}
}

func TestNodeOkByKidsOfEachKind(t *testing.T) {
	lists := kindLists([]int{impl.NdNum, impl.NdCall, impl.NdLet, impl.NdDo, impl.NdBlock, 0, 21}, 4)
	for one := -2; one <= lastKind+2; one++ {
		lists = append(lists, []int{one}, []int{impl.NdVar, one}, []int{one, impl.NdBlock}, []int{impl.NdInput, one, impl.NdBlock}, []int{impl.NdSame, impl.NdBlock, one})
	}
	for kind := -2; kind <= lastKind+2; kind++ {
		for _, kinds := range lists {
			nodes := overKinds(ofKind(kind), kinds)
			if got := impl.NodeOk(nodes, len(kinds)); got != nodeByRule(nodes, len(kinds)) {
				t.Fatalf("NodeOk = %v of Kind %d over Kids of Kinds %v", got, kind, kinds)
			}
		}
	}
}

func TestNodeOkByNumberOfKids(t *testing.T) {
	for kind := firstKind; kind <= lastKind; kind++ {
		for _, below := range []int{impl.NdNum, impl.NdCall, impl.NdPrint, impl.NdBlock} {
			for n := range 40 {
				nodes := overKinds(ofKind(kind), slices.Repeat([]int{below}, n))
				if got := impl.NodeOk(nodes, n); got != nodeByRule(nodes, n) {
					t.Fatalf("NodeOk = %v of Kind %d over %d Kids of Kind %d", got, kind, n, below)
				}
			}
		}
	}
	for n, want := range map[int]bool{0: true, 12: true, 13: false, 299: false, 30000: false} {
		if impl.NodeOk(overKinds(node(impl.NdBlock), slices.Repeat([]int{impl.NdPrint}, n)), n) != want {
			t.Errorf("NodeOk = %v of a block of %d statements", !want, n)
		}
	}
	for n, want := range map[int]bool{0: true, 3: true, 4: false} {
		if impl.NodeOk(overKinds(namedNode(impl.NdCall, "f"), slices.Repeat([]int{impl.NdNum}, n)), n) != want {
			t.Errorf("NodeOk = %v of a call with %d Kids", !want, n)
		}
	}
}

// rightKids gives the Kinds of Kids that a Kind takes.
func rightKids(kind int) []int {
	for _, kinds := range kindLists([]int{impl.NdNum, impl.NdCall, impl.NdPrint, impl.NdBlock}, 3) {
		nodes := overKinds(ofKind(kind), kinds)
		if nodeByRule(nodes, len(kinds)) {
			return kinds
		}
	}
	return nil
}

func TestNodeOkByNum(t *testing.T) {
	for kind := firstKind; kind <= lastKind; kind++ {
		for _, n := range []int{0, 1, 2, 127, impl.MaxNumber - 1, impl.MaxNumber, impl.MaxNumber + 1, -1, math.MinInt, math.MaxInt, 1 << 32} {
			top := ofKind(kind)
			top.Num = n
			nodes := overKinds(top, rightKids(kind))
			want := n == 0 || kind == impl.NdNum && 0 < n && n <= impl.MaxNumber
			if impl.NodeOk(nodes, len(nodes)-1) != want {
				t.Errorf("NodeOk = %v of Kind %d with Num %d", !want, kind, n)
			}
		}
	}
}

func TestNodeOkByName(t *testing.T) {
	names := append(keyWordTexts(), "", "a", "z9", "abcdefgh", "abcdefghi", "1a", "A", "a b", "a ", "a_", "é", "a\x00", "\xff", "&", " ", "main", strings.Repeat("a", 30000))
	for kind := firstKind; kind <= lastKind; kind++ {
		for _, name := range names {
			nodes := overKinds(impl.Node{Kind: kind, Name: name}, rightKids(kind))
			want := name == ""
			if hasName(kind) {
				want = slices.Contains([]string{"a", "z9", "abcdefgh", "main"}, name)
			}
			if impl.NodeOk(nodes, len(nodes)-1) != want {
				t.Errorf("NodeOk = %v of Kind %d with the Name %.20q", !want, kind, name)
			}
		}
	}
}

func TestNodeOkByPlacesOfKids(t *testing.T) {
	// Kids at places 0 to 3, the node at 4, and as much behind it.
	ahead := []impl.Node{numNode(1), node(impl.NdBlock), namedNode(impl.NdCall, "f"), node(impl.NdBlock)}
	behind := []impl.Node{numNode(1), node(impl.NdBlock), namedNode(impl.NdCall, "f"), node(impl.NdBlock)}
	places := append([]int{0, 1, 2, 3, 4, 5, 6, 7, 8}, wrongPlaces(9)...)
	for kind := firstKind; kind <= lastKind; kind++ {
		for _, kids := range kindLists(places, 3) {
			nodes := append(append(slices.Clone(ahead), ofKind(kind, kids...)), behind...)
			if got := impl.NodeOk(nodes, 4); got != nodeByRule(nodes, 4) {
				t.Fatalf("NodeOk = %v of Kind %d with the Kids %v", got, kind, kids)
			}
		}
	}
}

func TestNodeOkRefusesKidsTwice(t *testing.T) {
	var pl planter
	steps := pl.prints(12)
	for a := range steps {
		for b := range a {
			twice := slices.Clone(steps)
			twice[a] = steps[b]
			if impl.NodeOk(append(slices.Clone(pl.nodes), node(impl.NdBlock, twice...)), len(pl.nodes)) {
				t.Errorf("NodeOk = true of a block with the same Kid at %d and %d", b, a)
			}
		}
	}
	slices.Reverse(steps)
	if !impl.NodeOk(append(slices.Clone(pl.nodes), node(impl.NdBlock, steps...)), len(pl.nodes)) {
		t.Error("NodeOk = false of a block whose Kids don't ascend")
	}
}

func TestNodeOkByPlace(t *testing.T) {
	nodes := []impl.Node{numNode(1), node(impl.NdPrint, 0), node(impl.NdBlock, 1)}
	for k := range nodes {
		if !impl.NodeOk(nodes, k) {
			t.Errorf("NodeOk(.., %d) = false", k)
		}
	}
	for _, k := range wrongPlaces(len(nodes)) {
		if impl.NodeOk(nodes, k) || impl.DeepOf(nodes, k) != 0 {
			t.Errorf("NodeOk(.., %d) = true, or DeepOf not 0", k)
		}
	}
	for _, none := range [][]impl.Node{nil, {}, nodes[:0]} {
		for _, k := range []int{0, -1, 1} {
			if impl.NodeOk(none, k) || impl.DeepOf(none, k) != 0 {
				t.Errorf("NodeOk(nothing, %d) = true, or DeepOf not 0", k)
			}
		}
	}
}

// A node is asked about by itself; whether those ahead are right is asked by DeepOf.
func TestNodeOkOverWrongNodes(t *testing.T) {
	nodes := []impl.Node{numNode(-1), node(impl.NdPrint, 0), node(impl.NdBlock, 1), numNode(1)}
	for k, want := range []bool{false, true, true, true} {
		if impl.NodeOk(nodes, k) != want {
			t.Errorf("NodeOk(.., %d) = %v over a wrong node", k, !want)
		}
		if got := impl.DeepOf(nodes, k); got != 0 {
			t.Errorf("DeepOf(.., %d) = %d behind a wrong node", k, got)
		}
	}
}

func TestDeepOfForms(t *testing.T) {
	p := everyKind()
	for k, n := range p.Nodes {
		deepest := 0
		for _, kid := range n.Kids {
			deepest = max(deepest, impl.DeepOf(p.Nodes, kid))
		}
		if got := impl.DeepOf(p.Nodes, k); got != deepest+1 || got != deepByRule(p.Nodes, k) {
			t.Errorf("DeepOf(.., %d) = %d; the deepest of its Kids is %d", k, got, deepest)
		}
	}
	nodes := []impl.Node{numNode(1), namedNode(impl.NdVar, "a"), node(impl.NdAdd, 1, 0), numNode(2), node(impl.NdLess, 2, 3), node(impl.NdSame, 3, 4), namedNode(impl.NdCall, "f", 0, 5, 3), node(impl.NdBlock)}
	for k, want := range []int{1, 1, 2, 1, 3, 4, 5, 1} {
		if got := impl.DeepOf(nodes, k); got != want {
			t.Errorf("DeepOf(.., %d) = %d; want %d", k, got, want)
		}
	}
}

func TestDeepOfAtTheLimit(t *testing.T) {
	var pl planter
	for deep := range impl.MaxDeep {
		at := pl.chain(deep + 1)
		if got := impl.DeepOf(pl.nodes, at); got != deep+1 {
			t.Errorf("DeepOf = %d of a chain of %d", got, deep+1)
		}
	}
	right := len(pl.nodes)
	at := pl.chain(impl.MaxDeep + 1)
	next := pl.num(1)
	for k := range pl.nodes {
		if got := impl.DeepOf(pl.nodes, k); (got == 0) != (k >= at) {
			t.Errorf("DeepOf(.., %d) = %d; the node %d is one too deep", k, got, at)
		}
	}
	if got := impl.DeepOf(pl.nodes, next); got != 0 {
		t.Errorf("DeepOf = %d of a node behind one that is too deep", got)
	}
	if got := impl.DeepOf(pl.nodes, right-1); got != impl.MaxDeep {
		t.Errorf("DeepOf = %d of a node ahead of one that is too deep", got)
	}
}

// nested puts a statement into so many loops, one in the other, and gives the outermost block.
func (pl *planter) nested(loops int) int {
	at := pl.block(pl.print())
	for range loops {
		at = pl.block(pl.put(node(impl.NdWhile, pl.num(1), at)))
	}
	return at
}

func TestDeepOfOfStatementsAtTheLimit(t *testing.T) {
	for loops, want := range []int{3, 5, 7, 9, 0} {
		var pl planter
		at := pl.nested(loops)
		if got := impl.DeepOf(pl.nodes, at); got != want {
			t.Errorf("DeepOf = %d of %d loops in each other; want %d", got, loops, want)
		}
	}
	for loops, want := range []int{4, 6, 8, 10, 0} {
		for _, inner := range []bool{false, true} {
			var pl planter
			kids := []int{pl.num(1), pl.nested(loops), pl.block()}
			if inner {
				kids[1], kids[2] = kids[2], kids[1]
			}
			at := pl.put(node(impl.NdIf, kids...))
			if got := impl.DeepOf(pl.nodes, at); got != want {
				t.Errorf("DeepOf = %d of an NdIf over %d loops; want %d", got, loops, want)
			}
		}
	}
}

func TestDeepOfBehindWrongNodes(t *testing.T) {
	p := everyKind()
	for wrong := range p.Nodes {
		nodes := cloneNodes(p.Nodes)
		nodes[wrong].Num = -1
		for k := range nodes {
			want := 0
			if k < wrong {
				want = deepByRule(p.Nodes, k)
			}
			if got := impl.DeepOf(nodes, k); got != want {
				t.Fatalf("DeepOf(.., %d) = %d; want %d; the node %d is wrong", k, got, want, wrong)
			}
		}
	}
}

// There is no limit of nodes in NodeOk and DeepOf.
func TestDeepOfOfManyNodes(t *testing.T) {
	nodes := slices.Repeat([]impl.Node{numNode(3)}, 5000)
	nodes = append(nodes, node(impl.NdAdd, 4999, 0))
	if !impl.NodeOk(nodes, 5000) || impl.DeepOf(nodes, 5000) != 2 {
		t.Errorf("NodeOk = %v, DeepOf = %d of the last of 5001 nodes", impl.NodeOk(nodes, 5000), impl.DeepOf(nodes, 5000))
	}
}

// programByRule is ProgramOk, sentence by sentence.
func programByRule(p impl.Program) bool {
	if len(p.Nodes) < 1 || len(p.Nodes) > 300 || len(p.Fns) < 1 || len(p.Fns) > 8 {
		return false
	}
	for k := range p.Nodes {
		if deepByRule(p.Nodes, k) == 0 {
			return false
		}
	}
	names, ends := map[string]bool{}, map[int]bool{}
	for _, fn := range p.Fns {
		if names[fn.Name] || !fnByRule(p, fn) || ends[fn.Body] || ends[fn.Ret] {
			return false
		}
		names[fn.Name], ends[fn.Body] = true, true
		if fn.Ret != -1 {
			ends[fn.Ret] = true
		}
	}
	for k := range p.Nodes {
		uses := 0
		for _, n := range p.Nodes {
			if slices.Contains(n.Kids, k) {
				uses++
			}
		}
		if ends[k] && uses != 0 || !ends[k] && uses != 1 {
			return false
		}
	}
	return true
}

func fnByRule(p impl.Program, fn impl.Fn) bool {
	if !impl.NameOk(fn.Name) || len(fn.Params) > 3 || fn.Body < 0 || fn.Body >= len(p.Nodes) || p.Nodes[fn.Body].Kind != 20 {
		return false
	}
	for _, param := range fn.Params {
		if !impl.NameOk(param.Name) || !slices.Contains([]int{1, 2, 3, 4}, param.Type) {
			return false
		}
	}
	if fn.Res == 0 {
		return fn.Ret == -1
	}
	return (fn.Res == 1 || fn.Res == 2) && fn.Ret >= 0 && fn.Ret < len(p.Nodes) && strings.IndexByte("vc", kidLetter(p.Nodes[fn.Ret].Kind)) >= 0
}

func TestProgramOkForms(t *testing.T) {
	right := map[string]impl.Program{
		"every Kind":       everyKind(),
		"an empty block":   {Nodes: []impl.Node{node(impl.NdBlock)}, Fns: []impl.Fn{{Name: "f", Body: 0, Ret: -1}}},
		"a Ret":            {Nodes: []impl.Node{node(impl.NdBlock), numNode(1)}, Fns: []impl.Fn{{Name: "f", Res: impl.TyInt, Body: 0, Ret: 1}}},
		"a Ret first":      {Nodes: []impl.Node{numNode(1), node(impl.NdBlock)}, Fns: []impl.Fn{{Name: "f", Res: impl.TyBox, Body: 1, Ret: 0}}},
		"Params alike":     {Nodes: []impl.Node{node(impl.NdBlock)}, Fns: []impl.Fn{{Name: "f", Params: []impl.Param{{Name: "a", Type: impl.TyInt}, {Name: "a", Type: impl.TyBox}}, Ret: -1}}},
		"a Param as it":    {Nodes: []impl.Node{node(impl.NdBlock)}, Fns: []impl.Fn{{Name: "f", Params: []impl.Param{{Name: "f", Type: impl.TyMut}}, Ret: -1}}},
		"nodes mixed":      {Nodes: []impl.Node{node(impl.NdBlock), numNode(1), node(impl.NdBlock), node(impl.NdInput), node(impl.NdAdd, 3, 1)}, Fns: []impl.Fn{{Name: "g", Res: impl.TyInt, Body: 2, Ret: 4}, {Name: "f", Body: 0, Ret: -1}}},
		"no such function": {Nodes: []impl.Node{namedNode(impl.NdCall, "x"), node(impl.NdDo, 0), node(impl.NdBlock, 1)}, Fns: []impl.Fn{{Name: "f", Body: 2, Ret: -1}}},
	}
	for name, p := range right {
		if !impl.ProgramOk(p) || !programByRule(p) {
			t.Errorf("ProgramOk = %v, by rule %v: %s", impl.ProgramOk(p), programByRule(p), name)
		}
	}
}

func TestProgramOkByNumberOfNodes(t *testing.T) {
	for more, want := range []bool{true, false, false} {
		p := programOf300(more)
		if len(p.Nodes) != 300+more || impl.DeepOf(p.Nodes, len(p.Nodes)-1) == 0 {
			t.Fatalf("a program of %d nodes, %d deep", len(p.Nodes), impl.DeepOf(p.Nodes, len(p.Nodes)-1))
		}
		if impl.ProgramOk(p) != want {
			t.Errorf("ProgramOk = %v of %d nodes", !want, len(p.Nodes))
		}
	}
	for _, p := range []impl.Program{{}, {Fns: []impl.Fn{{Name: "f", Ret: -1}}}, {Fns: []impl.Fn{{Name: "f", Body: -1, Ret: -1}}}, {Nodes: []impl.Node{node(impl.NdBlock)}}} {
		if impl.ProgramOk(p) {
			t.Errorf("ProgramOk = true of %v", p)
		}
	}
}

func TestProgramOkByNumberOfFns(t *testing.T) {
	for n := range 12 {
		p := impl.Program{Nodes: []impl.Node{}}
		for k := range n {
			p.Nodes = append(p.Nodes, node(impl.NdBlock))
			p.Fns = append(p.Fns, impl.Fn{Name: "f" + strconv.Itoa(k), Body: k, Ret: -1})
		}
		want := 1 <= n && n <= 8
		if impl.ProgramOk(p) != want {
			t.Errorf("ProgramOk = %v of %d functions", !want, n)
		}
	}
}

func TestProgramOkByParams(t *testing.T) {
	for n := range 6 {
		for kind := -1; kind <= 5; kind++ {
			p := impl.Program{Nodes: []impl.Node{node(impl.NdBlock)}, Fns: []impl.Fn{{Name: "f", Ret: -1}}}
			for k := range n {
				p.Fns[0].Params = append(p.Fns[0].Params, impl.Param{Name: "p" + strconv.Itoa(k), Type: impl.TyInt})
			}
			if n > 0 {
				p.Fns[0].Params[n-1].Type = kind
			}
			want := n == 0 || n <= 3 && 1 <= kind && kind <= 4
			if impl.ProgramOk(p) != want {
				t.Errorf("ProgramOk = %v of %d Params, the last of Type %d", !want, n, kind)
			}
		}
	}
	for _, name := range append(keyWordTexts(), "", "1", "abcdefghi", "A", "a b") {
		p := everyKind()
		p.Fns[0].Params[2].Name = name
		q := everyKind()
		q.Fns[2].Name = name
		if impl.ProgramOk(p) || impl.ProgramOk(q) {
			t.Errorf("ProgramOk = true of a Param or a function of Name %q", name)
		}
	}
}

func TestProgramOkByRes(t *testing.T) {
	for res := -2; res <= 6; res++ {
		for ret := -3; ret <= 6; ret++ {
			p := impl.Program{Nodes: []impl.Node{node(impl.NdBlock), numNode(1), node(impl.NdPrint, 1), node(impl.NdBlock, 2)}, Fns: []impl.Fn{{Name: "f", Body: 0, Ret: -1}, {Name: "g", Body: 3, Res: res, Ret: ret}}}
			want := res == impl.TyNone && ret == -1
			if impl.ProgramOk(p) != want {
				t.Errorf("ProgramOk = %v with Res %d, Ret %d where no value is free", !want, res, ret)
			}
			p.Nodes = append(p.Nodes, node(impl.NdInput))
			want = (res == impl.TyInt || res == impl.TyBox) && ret == 4
			if impl.ProgramOk(p) != want {
				t.Errorf("ProgramOk = %v with Res %d, Ret %d where a value is free", !want, res, ret)
			}
		}
	}
}

func TestProgramOkByHowNodesHang(t *testing.T) {
	block, one := node(impl.NdBlock), numNode(1)
	f := impl.Fn{Name: "f", Body: 0, Ret: -1}
	wrong := map[string]impl.Program{
		"a value that is nobody's":        {Nodes: []impl.Node{block, one}, Fns: []impl.Fn{f}},
		"a block that is nobody's":        {Nodes: []impl.Node{block, block}, Fns: []impl.Fn{f}},
		"a statement that is nobody's":    {Nodes: []impl.Node{block, one, node(impl.NdPrint, 1)}, Fns: []impl.Fn{f}},
		"the Kid of two":                  {Nodes: []impl.Node{one, node(impl.NdPrint, 0), node(impl.NdPrint, 0), node(impl.NdBlock, 1, 2)}, Fns: []impl.Fn{{Name: "f", Body: 3, Ret: -1}}},
		"a statement in two blocks":       {Nodes: []impl.Node{one, node(impl.NdPrint, 0), node(impl.NdBlock, 1), node(impl.NdBlock, 1)}, Fns: []impl.Fn{{Name: "f", Body: 3, Ret: -1}, {Name: "g", Body: 2, Ret: -1}}},
		"a Ret that is a Kid of the Body": {Nodes: []impl.Node{one, node(impl.NdPrint, 0), node(impl.NdBlock, 1)}, Fns: []impl.Fn{{Name: "f", Res: 1, Body: 2, Ret: 0}}},
		"a Ret that is a Kid of its own":  {Nodes: []impl.Node{one, node(impl.NdNew, 0), block}, Fns: []impl.Fn{{Name: "f", Res: 1, Body: 2, Ret: 1}, {Name: "g", Res: 1, Body: 2, Ret: 0}}},
		"a Body that is a Kid":            {Nodes: []impl.Node{one, block, node(impl.NdWhile, 0, 1), node(impl.NdBlock, 2)}, Fns: []impl.Fn{{Name: "f", Body: 3, Ret: -1}, {Name: "g", Body: 1, Ret: -1}}},
		"one Body of two":                 {Nodes: []impl.Node{block}, Fns: []impl.Fn{f, {Name: "g", Body: 0, Ret: -1}}},
		"one Ret of two":                  {Nodes: []impl.Node{block, block, one}, Fns: []impl.Fn{{Name: "f", Res: 1, Body: 0, Ret: 2}, {Name: "g", Res: 1, Body: 1, Ret: 2}}},
		"a Ret as the Body":               {Nodes: []impl.Node{block}, Fns: []impl.Fn{{Name: "f", Res: 1, Body: 0, Ret: 0}}},
		"a value as the Body":             {Nodes: []impl.Node{one}, Fns: []impl.Fn{f}},
		"a statement as the Body":         {Nodes: []impl.Node{one, node(impl.NdPrint, 0)}, Fns: []impl.Fn{{Name: "f", Body: 1, Ret: -1}}},
		"a statement as the Ret":          {Nodes: []impl.Node{block, one, node(impl.NdPrint, 1)}, Fns: []impl.Fn{{Name: "f", Res: 1, Body: 0, Ret: 2}}},
		"a block as the Ret":              {Nodes: []impl.Node{block, block}, Fns: []impl.Fn{{Name: "f", Res: 1, Body: 0, Ret: 1}}},
		"a Ret without a Res":             {Nodes: []impl.Node{block, one}, Fns: []impl.Fn{{Name: "f", Body: 0, Ret: 1}}},
		"a Res without a Ret":             {Nodes: []impl.Node{block}, Fns: []impl.Fn{{Name: "f", Res: 1, Body: 0, Ret: -1}}},
		"two of one Name":                 {Nodes: []impl.Node{block, block}, Fns: []impl.Fn{f, {Name: "f", Body: 1, Ret: -1}}},
		"a wrong node behind":             {Nodes: []impl.Node{block, {Kind: 21}}, Fns: []impl.Fn{f}},
		"a node in a ring":                {Nodes: []impl.Node{block, node(impl.NdNew, 1)}, Fns: []impl.Fn{f}},
	}
	for name, p := range wrong {
		if impl.ProgramOk(p) || programByRule(p) {
			t.Errorf("ProgramOk = %v, by rule %v: %s", impl.ProgramOk(p), programByRule(p), name)
		}
	}
	for _, body := range wrongPlaces(1) {
		if impl.ProgramOk(impl.Program{Nodes: []impl.Node{block}, Fns: []impl.Fn{{Name: "f", Body: body, Ret: -1}}}) {
			t.Errorf("ProgramOk = true with the Body %d of one node", body)
		}
	}
	for _, ret := range wrongPlaces(2) {
		if impl.ProgramOk(impl.Program{Nodes: []impl.Node{block, one}, Fns: []impl.Fn{{Name: "f", Res: 1, Body: 0, Ret: ret}}}) {
			t.Errorf("ProgramOk = true with a Res and the Ret %d of two nodes", ret)
		}
	}
}

func TestProgramOkByDepth(t *testing.T) {
	for deep := 1; deep <= 12; deep++ {
		var pl planter
		at := pl.chain(deep)
		body := pl.block()
		p := impl.Program{Nodes: pl.nodes, Fns: []impl.Fn{{Name: "f", Res: impl.TyInt, Body: body, Ret: at}}}
		if want := deep <= 10; impl.ProgramOk(p) != want {
			t.Errorf("ProgramOk = %v with a Ret %d deep", !want, deep)
		}
		pl = planter{}
		at = pl.put(node(impl.NdPrint, pl.chain(deep)))
		body = pl.block(at)
		p = impl.Program{Nodes: pl.nodes, Fns: []impl.Fn{{Name: "f", Body: body, Ret: -1}}}
		if want := deep+2 <= 10; impl.ProgramOk(p) != want {
			t.Errorf("ProgramOk = %v with a Body %d deep", !want, deep+2)
		}
	}
}

// changedPrograms hands over everyKind with one thing of it changed at a time.
func changedPrograms(see func(what string, p impl.Program)) { changesOf(everyKind(), see) }

// changesOf hands over a program with one thing of it changed at a time.
func changesOf(base impl.Program, see func(what string, p impl.Program)) {
	change := func(what string, turn func(p *impl.Program)) {
		p := cloneProgram(base)
		turn(&p)
		see(what, p)
	}
	for k, n := range base.Nodes {
		where := "node " + strconv.Itoa(k)
		for kind := -1; kind <= 22; kind++ {
			change(where+" Kind "+strconv.Itoa(kind), func(p *impl.Program) { p.Nodes[k].Kind = kind })
		}
		for _, num := range []int{-1, 0, 1, impl.MaxNumber, impl.MaxNumber + 1} {
			change(where+" Num "+strconv.Itoa(num), func(p *impl.Program) { p.Nodes[k].Num = num })
		}
		for _, name := range []string{"", "x", "let", "abcdefghi"} {
			change(where+" Name "+name, func(p *impl.Program) { p.Nodes[k].Name = name })
		}
		for at := range n.Kids {
			change(where+" without a Kid", func(p *impl.Program) { p.Nodes[k].Kids = slices.Delete(p.Nodes[k].Kids, at, at+1) })
			for kid := -1; kid <= len(base.Nodes); kid++ {
				change(where+" Kid "+strconv.Itoa(kid), func(p *impl.Program) { p.Nodes[k].Kids[at] = kid })
			}
		}
		for kid := -1; kid <= len(base.Nodes); kid++ {
			change(where+" one more Kid "+strconv.Itoa(kid), func(p *impl.Program) { p.Nodes[k].Kids = append(p.Nodes[k].Kids, kid) })
		}
		change(where+" once more", func(p *impl.Program) { p.Nodes = append(p.Nodes, n) })
	}
	for k, fn := range base.Fns {
		where := "function " + strconv.Itoa(k)
		for at := -2; at <= len(base.Nodes); at++ {
			change(where+" Body "+strconv.Itoa(at), func(p *impl.Program) { p.Fns[k].Body = at })
			change(where+" Ret "+strconv.Itoa(at), func(p *impl.Program) { p.Fns[k].Ret = at })
		}
		for res := -1; res <= 5; res++ {
			change(where+" Res "+strconv.Itoa(res), func(p *impl.Program) { p.Fns[k].Res = res })
		}
		for _, name := range []string{"", "one", "two", "main", "x", "fn"} {
			change(where+" Name "+name, func(p *impl.Program) { p.Fns[k].Name = name })
		}
		change(where+" gone", func(p *impl.Program) { p.Fns = slices.Delete(p.Fns, k, k+1) })
		change(where+" twice", func(p *impl.Program) { p.Fns = append(p.Fns, fn) })
	}
}

func TestProgramOkOfChangedPrograms(t *testing.T) {
	right, all := 0, 0
	changedPrograms(func(what string, p impl.Program) {
		got := impl.ProgramOk(p)
		if got != programByRule(p) {
			t.Errorf("ProgramOk = %v: %s", got, what)
		}
		all++
		if got {
			right++
		}
	})
	if right < 100 || all-right < 1000 {
		t.Errorf("%d right of %d changed programs: the test tells little", right, all)
	}
}

func TestFnAt(t *testing.T) {
	p := everyKind()
	for k, fn := range p.Fns {
		if got := impl.FnAt(p, fn.Name); got != k {
			t.Errorf("FnAt(%q) = %d; want %d", fn.Name, got, k)
		}
	}
	for _, name := range []string{"", "on", "onee", "One", "three", "fn", "main ", "b"} {
		if got := impl.FnAt(p, name); got != -1 {
			t.Errorf("FnAt(%q) = %d; want -1", name, got)
		}
	}
	if got := impl.FnAt(impl.Program{}, "main"); got != -1 {
		t.Errorf("FnAt = %d without functions", got)
	}
	// The program need not be right.
	p = impl.Program{Fns: []impl.Fn{{Name: "a"}, {Name: ""}, {Name: "a", Res: 1}, {Name: "\xff"}, {Name: ""}, {Name: "fn"}}}
	for name, want := range map[string]int{"a": 0, "": 1, "\xff": 3, "fn": 5, "b": -1} {
		if got := impl.FnAt(p, name); got != want {
			t.Errorf("FnAt(%q) = %d; want %d", name, got, want)
		}
	}
}

func TestUnderForms(t *testing.T) {
	p := impl.Program{Nodes: []impl.Node{numNode(1), numNode(2), node(impl.NdAdd, 1, 0), numNode(3), namedNode(impl.NdCall, "f", 3, 2), node(impl.NdDo, 4), node(impl.NdBlock), numNode(4), node(impl.NdWhile, 7, 6), node(impl.NdBlock, 8, 5)}}
	for k, want := range [][]int{{0}, {1}, {0, 1, 2}, {3}, {0, 1, 2, 3, 4}, {0, 1, 2, 3, 4, 5}, {6}, {7}, {6, 7, 8}, {0, 1, 2, 3, 4, 5, 6, 7, 8, 9}} {
		if got := impl.Under(p, k); !slices.Equal(got, want) {
			t.Errorf("Under(.., %d) = %v; want %v", k, got, want)
		}
	}
	// The functions of a program are not asked.
	p.Fns = []impl.Fn{{Name: "fn", Body: 77, Ret: -5}}
	if got := impl.Under(p, 8); !slices.Equal(got, []int{6, 7, 8}) {
		t.Errorf("Under = %v with a wrong function", got)
	}
}

func TestUnderOfPartsComeToTwice(t *testing.T) {
	nodes := doubled(11)
	p := impl.Program{Nodes: nodes}
	for k := range nodes {
		var want []int
		for at := range k + 1 {
			if k > 1 || at == k {
				want = append(want, at)
			}
		}
		if got := impl.Under(p, k); !slices.Equal(got, want) {
			t.Errorf("Under(.., %d) = %v; want %v", k, got, want)
		}
	}
}

func TestUnderRefuses(t *testing.T) {
	p := impl.Program{Nodes: []impl.Node{numNode(1), node(impl.NdPrint, 0), {Kind: 21}, numNode(2), node(impl.NdBlock)}}
	for _, k := range append([]int{2, 3, 4}, wrongPlaces(5)...) {
		if got := impl.Under(p, k); len(got) != 0 {
			t.Errorf("Under(.., %d) = %v; want nothing", k, got)
		}
	}
	if got := impl.Under(p, 1); !slices.Equal(got, []int{0, 1}) {
		t.Errorf("Under = %v ahead of a wrong node", got)
	}
	if got := impl.Under(impl.Program{}, 0); len(got) != 0 {
		t.Errorf("Under = %v of no nodes", got)
	}
	for deep := 9; deep <= 11; deep++ {
		var pl planter
		at := pl.chain(deep)
		want := deep
		if deep > 10 {
			want = 0
		}
		if got := impl.Under(impl.Program{Nodes: pl.nodes}, at); len(got) != want {
			t.Errorf("Under has %d nodes of a chain of %d", len(got), deep)
		}
	}
}

// copies asks whether the copy is like the part, stands in order behind the nodes, and leaves them.
func copies(t *testing.T, p impl.Program, k int, nodes []impl.Node) {
	t.Helper()
	got, at := impl.CopyNodes(p, k, nodes)
	size := treeSize(p.Nodes, k)
	if at != len(nodes)+size-1 || len(got) != at+1 {
		t.Fatalf("CopyNodes(.., %d, %d nodes) = %d nodes, %d; the part has %d", k, len(nodes), len(got), at, size)
	}
	if !sameNodes(got[:len(nodes)], nodes) {
		t.Fatalf("CopyNodes(.., %d, %d nodes) changes those that were there", k, len(nodes))
	}
	if treeText(got, at) != treeText(p.Nodes, k) {
		t.Fatalf("CopyNodes(.., %d, %d nodes) = %.200v", k, len(nodes), got[len(nodes):])
	}
	if next := inOrder(got, at, len(nodes)); next != len(got) {
		t.Fatalf("CopyNodes(.., %d, %d nodes): the nodes are not each behind its Kids, in order, but at %d", k, len(nodes), next)
	}
}

// inOrder gives the place behind the node k, when it and all below it stand in order from the place next on; -1 when they don't.
func inOrder(nodes []impl.Node, k, next int) int {
	for _, kid := range nodes[k].Kids {
		if next >= 0 {
			next = inOrder(nodes, kid, next)
		}
	}
	if next != k {
		return -1
	}
	return next + 1
}

func staysAsItIs(t *testing.T, p impl.Program, k int, nodes []impl.Node) {
	t.Helper()
	if got, at := impl.CopyNodes(p, k, nodes); at != -1 || !sameNodes(got, nodes) {
		t.Fatalf("CopyNodes(%d nodes, %d, %d nodes) = %d nodes, %d; want them as they are, -1", len(p.Nodes), k, len(nodes), len(got), at)
	}
}

// rows gives lists of nodes that something may be put behind; they need not be right.
func rows() [][]impl.Node {
	return [][]impl.Node{nil, {}, {numNode(5)}, everyKind().Nodes, {{Kind: 99, Num: -7, Name: "fn", Kids: []int{5, -1, 0, 0}}, node(impl.NdBlock, 1), {}}, programOf300(0).Nodes[:250]}
}

func TestCopyNodesForms(t *testing.T) {
	p := impl.Program{Nodes: []impl.Node{numNode(1), namedNode(impl.NdVar, "b"), node(impl.NdAdd, 1, 0), numNode(3), namedNode(impl.NdCall, "f", 3, 2)}}
	row := []impl.Node{node(impl.NdBlock), numNode(9)}
	got, at := impl.CopyNodes(p, 4, row)
	want := append(slices.Clone(row), numNode(3), namedNode(impl.NdVar, "b"), numNode(1), node(impl.NdAdd, 3, 4), namedNode(impl.NdCall, "f", 2, 5))
	if at != 6 || !sameNodes(got, want) {
		t.Errorf("CopyNodes = %v, %d; want %v, 6", got, at, want)
	}
	got, at = impl.CopyNodes(p, 1, nil)
	if at != 0 || !sameNodes(got, p.Nodes[1:2]) {
		t.Errorf("CopyNodes of a leaf = %v, %d", got, at)
	}
}

func TestCopyNodesIsLikeThePart(t *testing.T) {
	for _, p := range []impl.Program{everyKind(), {Nodes: programOf300(0).Nodes[:60]}} {
		for k := range p.Nodes {
			for _, row := range rows() {
				if impl.DeepOf(p.Nodes, k) > 0 && len(row)+treeSize(p.Nodes, k) <= 300 {
					copies(t, p, k, row)
				}
			}
		}
	}
}

func TestCopyNodesOfPartsComeToTwice(t *testing.T) {
	p := impl.Program{Nodes: doubled(11)}
	for k := range p.Nodes {
		for _, row := range rows()[:5] {
			copies(t, p, k, row)
		}
	}
	// Two parts share a third one, and one part is come to by ways of two lengths.
	p = impl.Program{Nodes: []impl.Node{numNode(1), node(impl.NdNew, 0), node(impl.NdNew, 0), node(impl.NdAdd, 2, 1), namedNode(impl.NdCall, "f", 3, 0, 1)}}
	got, at := impl.CopyNodes(p, 4, nil)
	want := []impl.Node{numNode(1), node(impl.NdNew, 0), numNode(1), node(impl.NdNew, 2), node(impl.NdAdd, 1, 3), numNode(1), numNode(1), node(impl.NdNew, 6), namedNode(impl.NdCall, "f", 4, 5, 7)}
	if at != 8 || !sameNodes(got, want) {
		t.Errorf("CopyNodes = %v, %d; want %v, 8", got, at, want)
	}
}

func TestCopyNodesAtTheLimit(t *testing.T) {
	for _, nodes := range [][]impl.Node{doubled(11), everyKind().Nodes} {
		p := impl.Program{Nodes: nodes}
		for k := range nodes {
			free := 300 - treeSize(nodes, k)
			for _, n := range []int{free - 1, free} {
				copies(t, p, k, programOf300(0).Nodes[:n])
			}
			for _, n := range []int{free + 1, free + 2} {
				staysAsItIs(t, p, k, programOf300(2).Nodes[:n])
			}
			staysAsItIs(t, p, k, slices.Repeat([]impl.Node{numNode(1)}, 300))
			staysAsItIs(t, p, k, slices.Repeat([]impl.Node{numNode(1)}, 301))
			staysAsItIs(t, p, k, slices.Repeat([]impl.Node{numNode(1)}, 1000))
		}
	}
	whole := programOf300(0)
	copies(t, whole, 299, nil)
	staysAsItIs(t, whole, 299, []impl.Node{numNode(1)})
	staysAsItIs(t, programOf300(1), 300, nil)
	// What is copied from may have more nodes than that.
	long := impl.Program{Nodes: append(slices.Repeat([]impl.Node{numNode(1)}, 400), node(impl.NdAdd, 0, 399))}
	copies(t, long, 400, whole.Nodes[:297])
	staysAsItIs(t, long, 400, whole.Nodes[:298])
}

// Each block has twelve loops over the block ahead of it: few nodes, whose copy would have tens of thousands.
func TestCopyNodesOfHugeCopies(t *testing.T) {
	nodes := []impl.Node{numNode(1), node(impl.NdBlock)}
	for range 4 {
		from := len(nodes)
		for range 12 {
			nodes = append(nodes, node(impl.NdWhile, 0, from-1))
		}
		top := node(impl.NdBlock)
		for k := range 12 {
			top.Kids = append(top.Kids, from+k)
		}
		nodes = append(nodes, top)
	}
	k := len(nodes) - 1
	p := impl.Program{Nodes: nodes, Fns: []impl.Fn{{Name: "f", Body: k, Ret: -1}}}
	if got := impl.DeepOf(nodes, k); got != 9 {
		t.Fatalf("DeepOf = %d", got)
	}
	staysAsItIs(t, p, k, []impl.Node{numNode(1)})
	if got := impl.Under(p, k); len(got) != len(nodes) {
		t.Errorf("Under has %d of %d nodes", len(got), len(nodes))
	}
	refusesPacked(t, p)
}

func TestCopyNodesRefuses(t *testing.T) {
	p := impl.Program{Nodes: []impl.Node{numNode(1), node(impl.NdPrint, 0), {Kind: 21}, numNode(2), node(impl.NdBlock)}}
	for _, row := range append(rows(), slices.Repeat([]impl.Node{numNode(1)}, 500)) {
		for _, k := range append([]int{2, 3, 4}, wrongPlaces(5)...) {
			staysAsItIs(t, p, k, row)
		}
		staysAsItIs(t, impl.Program{}, 0, row)
		var pl planter
		staysAsItIs(t, impl.Program{Nodes: pl.nodes}, pl.chain(11), row)
	}
	copies(t, p, 1, nil)
}

func refusesPacked(t *testing.T, p impl.Program) {
	t.Helper()
	if got, ok := impl.Packed(p); ok || len(got.Nodes) != 0 || len(got.Fns) != 0 {
		t.Fatalf("Packed = %d nodes, %d functions, %v; want nothing, false", len(got.Nodes), len(got.Fns), ok)
	}
}

// packs asks whether the functions are the same, and their nodes like the old ones, all in order.
func packs(t *testing.T, p impl.Program) {
	t.Helper()
	got, ok := impl.Packed(p)
	if !ok || len(got.Fns) != len(p.Fns) {
		t.Fatalf("Packed = %d functions, %v; want %d, true", len(got.Fns), ok, len(p.Fns))
	}
	next := 0
	for k, fn := range p.Fns {
		f := got.Fns[k]
		if f.Name != fn.Name || !slices.Equal(f.Params, fn.Params) || f.Res != fn.Res || (f.Ret == -1) != (fn.Ret == -1) {
			t.Fatalf("Packed: function %d is %v; want %v", k, f, fn)
		}
		ends := [][2]int{{f.Body, fn.Body}, {f.Ret, fn.Ret}}
		if fn.Ret == -1 {
			ends = ends[:1]
		}
		for _, end := range ends {
			if treeText(got.Nodes, end[0]) != treeText(p.Nodes, end[1]) {
				t.Fatalf("Packed: a part of function %d is %.200q; want %.200q", k, treeText(got.Nodes, end[0]), treeText(p.Nodes, end[1]))
			}
			if next = inOrder(got.Nodes, end[0], next); next < 0 {
				t.Fatalf("Packed: the nodes of function %d are not in order", k)
			}
		}
	}
	if next != len(got.Nodes) {
		t.Fatalf("Packed = %d nodes; %d of them belong to functions", len(got.Nodes), next)
	}
}

func TestPackedIsTheSameProgram(t *testing.T) {
	for _, p := range []impl.Program{everyKind(), programOf300(0), {Nodes: []impl.Node{node(impl.NdBlock)}, Fns: []impl.Fn{{Name: "f", Ret: -1}}}} {
		got, ok := impl.Packed(p)
		if !ok || !samePrograms(got, p) || !impl.ProgramOk(got) {
			t.Errorf("Packed = %d nodes, %v; want the same program of %d", len(got.Nodes), ok, len(p.Nodes))
		}
		packs(t, p)
	}
}

// reordered gives the program with its nodes at other places: that of k is to[k].
func reordered(p impl.Program, to []int) impl.Program {
	q := cloneProgram(p)
	for k, n := range p.Nodes {
		kids := make([]int, len(n.Kids))
		for at, kid := range n.Kids {
			kids[at] = to[kid]
		}
		n.Kids = kids
		q.Nodes[to[k]] = n
	}
	for k := range q.Fns {
		q.Fns[k].Body = to[q.Fns[k].Body]
		if q.Fns[k].Ret >= 0 {
			q.Fns[k].Ret = to[q.Fns[k].Ret]
		}
	}
	return q
}

func TestPackedOfNodesInAnyOrder(t *testing.T) {
	p := everyKind()
	to := make([]int, len(p.Nodes))
	for k := range to {
		to[k] = len(to) - 1 - k
	}
	d := dice(1)
	for range 200 {
		q := reordered(p, to)
		got, ok := impl.Packed(q)
		if !ok || !samePrograms(got, p) {
			t.Fatalf("Packed of nodes in the order %v = %d nodes, %v; want the same program", to, len(got.Nodes), ok)
		}
		for k := range to {
			at := d.below(k + 1)
			to[k], to[at] = to[at], to[k]
		}
	}
}

func TestPackedDropsWhatIsNobodys(t *testing.T) {
	want := everyKind()
	p := everyKind()
	p.Nodes = append(p.Nodes, numNode(1), impl.Node{Kind: 99, Kids: []int{-5, 999}}, node(impl.NdNew, len(p.Nodes)+2))
	p.Nodes = append(p.Nodes, slices.Repeat([]impl.Node{numNode(1)}, 1000)...)
	if got, ok := impl.Packed(p); !ok || !samePrograms(got, want) {
		t.Errorf("Packed = %d nodes, %v with nodes that are nobody's", len(got.Nodes), ok)
	}
	want.Fns = want.Fns[:2]
	if got, ok := impl.Packed(want); !ok || len(got.Fns) != 2 || len(got.Nodes) != want.Fns[1].Ret+1 {
		t.Errorf("Packed = %d nodes, %v without the last function", len(got.Nodes), ok)
	}
}

func TestPackedOfPartsComeToTwice(t *testing.T) {
	// One node as a Kid twice, as a Kid of two, as a Kid and a Ret, and as two Bodies.
	p := impl.Program{Nodes: []impl.Node{node(impl.NdBlock, 1, 1), node(impl.NdPrint, 3), node(impl.NdAdd, 3, 3), numNode(4)}, Fns: []impl.Fn{{Name: "f", Res: 1, Body: 0, Ret: 3}, {Name: "f", Body: 0, Ret: 2}}}
	want := impl.Program{Nodes: []impl.Node{
		numNode(4), node(impl.NdPrint, 0), numNode(4), node(impl.NdPrint, 2), node(impl.NdBlock, 1, 3), numNode(4),
		numNode(4), node(impl.NdPrint, 6), numNode(4), node(impl.NdPrint, 8), node(impl.NdBlock, 7, 9), numNode(4), numNode(4), node(impl.NdAdd, 11, 12),
	}, Fns: []impl.Fn{{Name: "f", Res: 1, Body: 4, Ret: 5}, {Name: "f", Body: 10, Ret: 13}}}
	if got, ok := impl.Packed(p); !ok || !samePrograms(got, want) {
		t.Errorf("Packed = %v, %v; want %v, true", got, ok, want)
	}
	for k := range 11 {
		packs(t, impl.Program{Nodes: doubled(11), Fns: []impl.Fn{{Name: "f", Body: k, Ret: max(k-1, 0)}}})
	}
}

// The nodes and the functions need not be right: they are taken as they are.
func TestPackedOfWrongPrograms(t *testing.T) {
	nodes := []impl.Node{{Kind: 77, Num: -5, Name: "fn", Kids: []int{1, 2}}, {Kind: impl.NdNum, Num: -1, Kids: []int{2}}, {}, {Kind: impl.NdInput, Num: 3, Name: "no name"}}
	p := impl.Program{Nodes: nodes, Fns: []impl.Fn{
		{Name: "1", Params: []impl.Param{{Name: "", Type: 9}, {}, {}, {}, {Name: "p", Type: -1}}, Res: 7, Body: 0, Ret: 3},
		{Res: 1, Body: 3, Ret: -1},
		{Res: 0, Body: 1, Ret: 1},
	}}
	packs(t, p)
	for n := range 100 {
		many := impl.Program{Nodes: []impl.Node{numNode(1)}}
		for k := range n {
			many.Fns = append(many.Fns, impl.Fn{Name: "f", Res: k, Body: 0, Ret: k%2 - 1})
		}
		packs(t, many)
	}
	if got, ok := impl.Packed(impl.Program{}); !ok || len(got.Nodes) != 0 || len(got.Fns) != 0 {
		t.Errorf("Packed of nothing = %v, %v; want nothing, true", got, ok)
	}
	if got, ok := impl.Packed(impl.Program{Nodes: nodes}); !ok || len(got.Nodes) != 0 || len(got.Fns) != 0 {
		t.Errorf("Packed without functions = %v, %v; want nothing, true", got, ok)
	}
}

func TestPackedByNumberOfNodes(t *testing.T) {
	for n := 297; n <= 303; n++ {
		in := impl.Program{Nodes: []impl.Node{numNode(1), node(impl.NdBlock, make([]int, n-1)...)}, Fns: []impl.Fn{{Name: "f", Body: 1, Ret: -1}}}
		atEnd := impl.Program{Nodes: []impl.Node{numNode(1), node(impl.NdBlock, make([]int, n-2)...)}, Fns: []impl.Fn{{Name: "f", Res: 1, Body: 1, Ret: 0}}}
		ofTwo := impl.Program{Nodes: []impl.Node{numNode(1), node(impl.NdBlock, make([]int, n-11)...), node(impl.NdBlock, make([]int, 9)...)}, Fns: []impl.Fn{{Name: "f", Body: 1, Ret: -1}, {Name: "g", Body: 2, Ret: -1}}}
		alone := impl.Program{Nodes: []impl.Node{node(impl.NdBlock)}, Fns: slices.Repeat([]impl.Fn{{Name: "f", Ret: -1}}, n)}
		for _, p := range []impl.Program{in, atEnd, ofTwo, alone} {
			if n <= 300 {
				packs(t, p)
			} else {
				refusesPacked(t, p)
			}
		}
	}
	refusesPacked(t, programOf300(1))
	refusesPacked(t, impl.Program{Nodes: []impl.Node{numNode(1), node(impl.NdBlock, make([]int, 100000)...)}, Fns: []impl.Fn{{Name: "f", Body: 1, Ret: -1}}})
}

func TestPackedByDepth(t *testing.T) {
	for deep := 1; deep <= 13; deep++ {
		var pl planter
		chain := pl.chain(deep)
		flat := pl.block()
		body := impl.Program{Nodes: pl.nodes, Fns: []impl.Fn{{Name: "f", Body: flat, Ret: -1}, {Name: "g", Body: chain, Ret: -1}}}
		ret := impl.Program{Nodes: pl.nodes, Fns: []impl.Fn{{Name: "f", Res: 1, Body: flat, Ret: chain}, {Name: "g", Body: flat, Ret: -1}}}
		for _, p := range []impl.Program{body, ret} {
			if deep <= 10 {
				packs(t, p)
			} else {
				refusesPacked(t, p)
			}
		}
	}
}

func TestPackedRefusesWaysThatNeverEnd(t *testing.T) {
	for name, nodes := range map[string][]impl.Node{
		"itself":                  {node(impl.NdNew, 0)},
		"itself many times":       {node(impl.NdBlock, make([]int, 50)...)},
		"two that have the other": {node(impl.NdNew, 1), node(impl.NdNew, 0)},
		"far down":                {node(impl.NdBlock, 1), node(impl.NdPrint, 2), node(impl.NdAdd, 3, 4), numNode(1), node(impl.NdNew, 1)},
		"behind many leaves":      {node(impl.NdBlock, 1, 1, 1, 1, 1, 1, 1, 1, 1, 1, 1, 1, 0), numNode(1)},
	} {
		refusesPacked(t, impl.Program{Nodes: nodes, Fns: []impl.Fn{{Name: name, Body: 0, Ret: -1}}})
		more := append(slices.Clone(nodes), node(impl.NdBlock))
		refusesPacked(t, impl.Program{Nodes: more, Fns: []impl.Fn{{Name: name, Body: len(nodes), Ret: 0}}})
		packs(t, impl.Program{Nodes: more, Fns: []impl.Fn{{Name: name, Body: len(nodes), Ret: -1}}})
	}
}

func TestPackedRefusesWhatIsNoNode(t *testing.T) {
	nodes := []impl.Node{node(impl.NdBlock, 1), node(impl.NdAdd, 2, 2), numNode(1)}
	for _, wrong := range wrongPlaces(3) {
		for k := range nodes {
			p := impl.Program{Nodes: cloneNodes(nodes), Fns: []impl.Fn{{Name: "f", Body: 0, Ret: -1}}}
			packs(t, p)
			p.Nodes[k].Kids = append(p.Nodes[k].Kids, wrong)
			refusesPacked(t, p)
		}
		refusesPacked(t, impl.Program{Nodes: nodes, Fns: []impl.Fn{{Name: "f", Body: 0, Ret: -1}, {Name: "g", Body: wrong, Ret: -1}}})
		if wrong != -1 {
			refusesPacked(t, impl.Program{Nodes: nodes, Fns: []impl.Fn{{Name: "f", Body: 0, Ret: wrong}}})
		}
	}
	refusesPacked(t, impl.Program{Fns: []impl.Fn{{Name: "f", Ret: -1}}})
}

// canPack tells by levels, not by ways, whether a program is Packed: a ring has a node in every level.
func canPack(p impl.Program) bool {
	level := map[int]int{}
	for _, fn := range p.Fns {
		level[fn.Body]++
		if fn.Ret != -1 {
			level[fn.Ret]++
		}
	}
	all := 0
	for deep := 1; len(level) > 0; deep++ {
		if deep > 10 {
			return false
		}
		next := map[int]int{}
		for k, times := range level {
			if k < 0 || k >= len(p.Nodes) {
				return false
			}
			all += times
			for _, kid := range p.Nodes[k].Kids {
				next[kid] += times
			}
		}
		level = next
	}
	return all <= 300
}

func packsByRule(t *testing.T, p impl.Program) bool {
	t.Helper()
	if !canPack(p) {
		refusesPacked(t, p)
		return false
	}
	packs(t, p)
	return true
}

func TestPackedOfChangedPrograms(t *testing.T) {
	changedPrograms(func(what string, p impl.Program) { packsByRule(t, p) })
}

func TestPackedOfAnyGraphs(t *testing.T) {
	d := dice(7)
	done := 0
	for range 20000 {
		var p impl.Program
		n := 1 + d.below(12)
		for k := range n {
			one := impl.Node{Kind: d.below(23) - 1, Num: d.below(3)}
			for range d.below(4) {
				// Mostly places behind it, so that many of the graphs end.
				one.Kids = append(one.Kids, k+1+d.below(4)-d.below(20)/19*3)
			}
			one.Kids = slices.DeleteFunc(one.Kids, func(kid int) bool { return kid >= n && d.below(30) > 0 })
			p.Nodes = append(p.Nodes, one)
		}
		for range d.below(4) {
			p.Fns = append(p.Fns, impl.Fn{Name: "f", Res: d.below(3), Body: d.below(n), Ret: d.below(n+1) - 1})
		}
		if packsByRule(t, p) {
			done++
		}
	}
	if done < 2000 || done > 18000 {
		t.Errorf("%d of 20000 graphs are packed: the test tells little", done)
	}
}

// anyNodes gives nodes that are mostly right; parts may be come to twice.
func anyNodes(d *dice, n int) []impl.Node {
	var nodes []impl.Node
	pick := func(letters string) int {
		for range 20 {
			if at := d.below(len(nodes) + 1); at < len(nodes) && strings.IndexByte(letters, kidLetter(nodes[at].Kind)) >= 0 {
				return at
			}
		}
		return d.below(len(nodes)+3) - 1
	}
	wants := []string{"", "", "", "", "", "", "", "", "v", "vv", "vv", "vv", "v", "v", "v", "v", "vbb", "vb", "v", "c", "ss"}
	for range n {
		kind := 1 + d.below(20)
		one := ofKind(kind)
		for _, letter := range wants[kind] {
			one.Kids = append(one.Kids, pick(strings.Replace(string(letter), "v", "vc", 1)))
		}
		// A Kind whose Kids are not there is more often than not left out.
		nodes = append(nodes, one)
		if !nodeByRule(nodes, len(nodes)-1) && d.below(60) > 0 {
			nodes[len(nodes)-1] = []impl.Node{numNode(d.below(5)), node(impl.NdBlock), namedNode(impl.NdVar, "a")}[d.below(3)]
		}
	}
	return nodes
}

func TestTreesAreTheRule(t *testing.T) {
	d := dice(3)
	right, deepest := 0, 0
	for range 4000 {
		p := impl.Program{Nodes: anyNodes(&d, 1+d.below(24))}
		for k := -1; k <= len(p.Nodes); k++ {
			if impl.NodeOk(p.Nodes, k) != nodeByRule(p.Nodes, k) {
				t.Fatalf("NodeOk(%v, %d) = %v", p.Nodes, k, impl.NodeOk(p.Nodes, k))
			}
			deep := deepByRule(p.Nodes, k)
			if got := impl.DeepOf(p.Nodes, k); got != deep {
				t.Fatalf("DeepOf(%v, %d) = %d; want %d", p.Nodes, k, got, deep)
			}
			deepest = max(deepest, deep)
			var under []int
			for at := 0; at <= k && deep > 0; at++ {
				if isBelow(p.Nodes, k, at) {
					under = append(under, at)
				}
			}
			if got := impl.Under(p, k); !slices.Equal(got, under) {
				t.Fatalf("Under(%v, %d) = %v; want %v", p.Nodes, k, got, under)
			}
			if deep == 0 {
				staysAsItIs(t, p, k, p.Nodes)
			} else {
				right++
				copies(t, p, k, p.Nodes)
			}
		}
	}
	if right < 5000 || deepest < 7 {
		t.Errorf("%d right nodes, at most %d deep: the test tells little", right, deepest)
	}
}

func TestPackedOfRightProgramsIsRight(t *testing.T) {
	changedPrograms(func(what string, p impl.Program) {
		if !impl.ProgramOk(p) {
			return
		}
		got, ok := impl.Packed(p)
		if !ok || !impl.ProgramOk(got) || len(got.Nodes) != len(p.Nodes) {
			t.Errorf("Packed = %d nodes, %v of %d: %s", len(got.Nodes), ok, len(p.Nodes), what)
		}
		again, ok := impl.Packed(got)
		if !ok || !samePrograms(again, got) {
			t.Errorf("Packed of what is packed is another: %s", what)
		}
	})
}

// roomy gives the nodes with spare room behind each list, filled with what nobody would write.
func roomy(nodes []impl.Node) []impl.Node {
	list := make([]impl.Node, 0, len(nodes)+3)
	for _, n := range nodes {
		n.Name = strings.Clone(n.Name)
		n.Kids = append(append(make([]int, 0, len(n.Kids)+2), n.Kids...), -77, -77)[:len(n.Kids)]
		list = append(list, n)
	}
	return append(list, impl.Node{Kind: -77}, impl.Node{Kind: -77}, impl.Node{Kind: -77})[:len(nodes)]
}

func roomyProgram(p impl.Program) impl.Program {
	q := impl.Program{Nodes: roomy(p.Nodes)}
	for _, fn := range p.Fns {
		fn.Name = strings.Clone(fn.Name)
		fn.Params = append(slices.Clone(fn.Params), impl.Param{Type: -77})[:len(fn.Params)]
		for k := range fn.Params {
			fn.Params[k].Name = strings.Clone(fn.Params[k].Name)
		}
		q.Fns = append(q.Fns, fn)
	}
	q.Fns = append(q.Fns, impl.Fn{Res: -77})[:len(p.Fns)]
	return q
}

// untouched tells whether nodes are as they were, and the room behind each list too.
func untouched(nodes, before []impl.Node) bool {
	for _, n := range nodes {
		for _, spare := range n.Kids[len(n.Kids) : len(n.Kids)+2] {
			if spare != -77 {
				return false
			}
		}
	}
	for _, spare := range nodes[len(nodes) : len(nodes)+3] {
		if spare.Kind != -77 {
			return false
		}
	}
	return sameNodes(nodes, before)
}

func TestTreeArgumentsStayAsTheyAre(t *testing.T) {
	wrong := everyKind()
	wrong.Nodes[9].Num = 1
	for _, base := range []impl.Program{everyKind(), wrong, {Nodes: doubled(11), Fns: []impl.Fn{{Name: "f", Body: 10, Ret: 5}}}} {
		p, row := roomyProgram(base), roomy(everyKind().Nodes)
		impl.ProgramOk(p)
		impl.FnAt(p, "main")
		impl.Packed(p)
		for k := -1; k <= len(p.Nodes); k++ {
			impl.NodeOk(p.Nodes, k)
			impl.DeepOf(p.Nodes, k)
			impl.Under(p, k)
			impl.CopyNodes(p, k, row)
			impl.CopyNodes(p, k, p.Nodes)
		}
		if !untouched(p.Nodes, base.Nodes) || !samePrograms(p, base) || p.Fns[:len(p.Fns)+1][len(p.Fns)].Res != -77 {
			t.Error("a program that was handed in is changed")
		}
		for _, fn := range p.Fns {
			if fn.Params[:len(fn.Params)+1][len(fn.Params)].Type != -77 {
				t.Error("the room behind the Params of a program that was handed in is changed")
			}
		}
		if !untouched(row, everyKind().Nodes) {
			t.Error("nodes that were handed in are changed")
		}
	}
}

// span is the memory of a list, its spare room with it.
type span struct{ from, to uintptr }

func spanOf[T any](list []T) span {
	from := uintptr(unsafe.Pointer(unsafe.SliceData(list)))
	var one T
	return span{from, from + uintptr(cap(list))*unsafe.Sizeof(one)}
}

func spansOf(p impl.Program) []span {
	list := []span{spanOf(p.Nodes), spanOf(p.Fns)}
	for _, n := range p.Nodes {
		list = append(list, spanOf(n.Kids), textSpan(n.Name))
	}
	for _, fn := range p.Fns {
		list = append(list, spanOf(fn.Params), textSpan(fn.Name))
		for _, param := range fn.Params {
			list = append(list, textSpan(param.Name))
		}
	}
	return slices.DeleteFunc(list, func(s span) bool { return s.from == s.to })
}

func textSpan(text string) span {
	from := uintptr(unsafe.Pointer(unsafe.StringData(text)))
	return span{from, from + uintptr(len(text))}
}

// meet tells whether two of the spans share a byte.
func meet(spans []span) bool {
	// What is sorted is a copy: the list may share its room with another one of the test.
	spans = slices.Clone(spans)
	slices.SortFunc(spans, func(a, b span) int {
		if a.from < b.from {
			return -1
		}
		return 1
	})
	for k := 1; k < len(spans); k++ {
		if spans[k].from < spans[k-1].to {
			return true
		}
	}
	return false
}

func TestTreeAnswersAreNewMemory(t *testing.T) {
	wrong := everyKind()
	wrong.Nodes[9].Num = 1
	twice := impl.Program{Nodes: doubled(11), Fns: []impl.Fn{{Name: "f", Params: []impl.Param{{Name: "a", Type: 1}}, Body: 10, Ret: 10}, {Name: "g", Body: 10, Ret: -1}}}
	for _, base := range []impl.Program{everyKind(), wrong, twice} {
		p, row := roomyProgram(base), roomy(everyKind().Nodes)
		given := append(spansOf(p), spansOf(impl.Program{Nodes: row})...)
		if meet(given) {
			t.Fatal("what is handed in shares memory")
		}
		packed, _ := impl.Packed(p)
		if meet(append(spansOf(packed), given...)) {
			t.Error("Packed shares memory")
		}
		for k := -1; k <= len(p.Nodes); k++ {
			for _, to := range [][]impl.Node{row, p.Nodes, nil} {
				got, _ := impl.CopyNodes(p, k, to)
				if meet(append(spansOf(impl.Program{Nodes: got}), given...)) {
					t.Errorf("CopyNodes(.., %d, %d nodes) shares memory", k, len(to))
				}
			}
			if under := impl.Under(p, k); len(under) > 0 && meet(append(given, spanOf(under))) {
				t.Errorf("Under(.., %d) shares memory", k)
			}
		}
	}
}
