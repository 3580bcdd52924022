package tests

import (
	"math"
	"math/big"
	"slices"
	"strconv"
	"strings"
	"testing"

	"loop.example/g00423/impl"
)

// memoryTold tells a memory in short, a cell that is not live with an x: [5 3x] in 8 9 out 7 fuel 4 bad 0.
func memoryTold(m impl.Memory) string {
	var cells []string
	for _, c := range m.Cells {
		text := strconv.Itoa(c.Num)
		if !c.Live {
			text += "x"
		}
		cells = append(cells, text)
	}
	told := []string{"[" + strings.Join(cells, " ") + "]", "in"}
	for _, n := range m.Input {
		told = append(told, strconv.Itoa(n))
	}
	told = append(told, "out")
	for _, n := range m.Out {
		told = append(told, strconv.Itoa(n))
	}
	return strings.Join(append(told, "fuel", strconv.Itoa(m.Fuel), "bad", strconv.Itoa(m.Bad)), " ")
}

// cellsOf makes cells of a text as memoryTold writes them.
func cellsOf(text string) []impl.Cell {
	var cells []impl.Cell
	for _, part := range strings.Fields(text) {
		figures, gone := strings.CutSuffix(part, "x")
		n, err := strconv.Atoi(figures)
		if err != nil {
			panic(err)
		}
		cells = append(cells, impl.Cell{Live: !gone, Num: n})
	}
	return cells
}

func cloneMemory(m impl.Memory) impl.Memory {
	m.Cells, m.Input, m.Out = slices.Clone(m.Cells), slices.Clone(m.Input), slices.Clone(m.Out)
	return m
}

func sameMemory(a, b impl.Memory) bool {
	return slices.Equal(a.Cells, b.Cells) && slices.Equal(a.Input, b.Input) && slices.Equal(a.Out, b.Out) && a.Fuel == b.Fuel && a.Bad == b.Bad
}

// A deed is a call of one of the functions that a memory is handed to, with all else that is handed over.
type deed struct {
	name string
	v    impl.Value
	a, b int
}

func (d deed) text() string {
	return d.name + "(.., " + strconv.Itoa(d.v.Type) + ":" + strconv.Itoa(d.v.Num) + ", " + strconv.Itoa(d.a) + ", " + strconv.Itoa(d.b) + ")"
}

func deedNames() []string {
	return []string{"Spend", "Fresh", "Moved", "Freed", "Looked", "Written", "Asked", "Told", "Summed"}
}

func (d deed) done(m impl.Memory) (to impl.Memory, v impl.Value, n int) {
	switch d.name {
	case "Spend":
		to = impl.Spend(m)
	case "Fresh":
		to, v = impl.Fresh(m, d.a)
	case "Moved":
		to, v = impl.Moved(m, d.v)
	case "Freed":
		to = impl.Freed(m, d.v)
	case "Looked":
		to, n = impl.Looked(m, d.v)
	case "Written":
		to = impl.Written(m, d.v, d.a)
	case "Asked":
		to, n = impl.Asked(m)
	case "Told":
		to = impl.Told(m, d.a)
	case "Summed":
		to, n = impl.Summed(m, d.a, d.b)
	default:
		panic(d.name)
	}
	return to, v, n
}

// byRule is done, as the document says it of each one.
func (d deed) byRule(m impl.Memory) (impl.Memory, impl.Value, int) {
	to := cloneMemory(m)
	if m.Bad != 0 {
		return to, impl.Value{}, 0
	}
	live := d.v.Num >= 0 && d.v.Num < len(m.Cells) && m.Cells[d.v.Num].Live
	leads := live && slices.Contains([]int{impl.TyBox, impl.TyRef, impl.TyMut}, d.v.Type)
	where := " gone"
	if leads {
		where = " there"
	}
	newBox := box(len(m.Cells))
	switch d.name + where {
	case "Moved gone", "Freed gone":
		if d.v.Type != impl.TyBox && d.name == "Moved" {
			return to, d.v, 0
		}
		if d.name == "Moved" {
			to.Bad = 5
		}
		return to, impl.Value{}, 0
	case "Moved there":
		if d.v.Type != impl.TyBox {
			return to, d.v, 0
		}
		to.Cells[d.v.Num].Live = false
		to.Cells = append(to.Cells, impl.Cell{Live: true, Num: m.Cells[d.v.Num].Num})
		return to, newBox, 0
	case "Freed there":
		to.Cells[d.v.Num].Live = d.v.Type != impl.TyBox
		return to, impl.Value{}, 0
	case "Looked gone", "Written gone":
		to.Bad = 5
		return to, impl.Value{}, 0
	case "Looked there":
		return to, impl.Value{}, m.Cells[d.v.Num].Num
	case "Written there":
		to.Cells[d.v.Num].Num = d.a
		return to, impl.Value{}, 0
	}
	return d.byRuleOfNumbers(to, newBox)
}

// byRuleOfNumbers is byRule of those that are handed no Value.
func (d deed) byRuleOfNumbers(to impl.Memory, newBox impl.Value) (impl.Memory, impl.Value, int) {
	switch d.name {
	case "Spend":
		if to.Fuel <= 0 {
			to.Bad = 1
		} else {
			to.Fuel--
		}
	case "Fresh":
		to.Cells = append(to.Cells, impl.Cell{Live: true, Num: d.a})
		return to, newBox, 0
	case "Asked":
		if len(to.Input) == 0 {
			to.Bad = 2
			return to, impl.Value{}, 0
		}
		n := to.Input[0]
		to.Input = to.Input[1:]
		return to, impl.Value{}, n
	case "Told":
		to.Out = append(to.Out, d.a)
	case "Summed":
		a, b, most := big.NewInt(int64(d.a)), big.NewInt(int64(d.b)), big.NewInt(1000000000)
		sum := new(big.Int).Add(a, b)
		for _, n := range []*big.Int{a, b, sum} {
			if n.Sign() < 0 || n.Cmp(most) > 0 {
				to.Bad = 3
				return to, impl.Value{}, 0
			}
		}
		return to, impl.Value{}, int(sum.Int64())
	}
	return to, impl.Value{}, 0
}

// holds holds what a deed does against what the rule says of it, and gives it.
func (d deed) holds(t *testing.T, m impl.Memory) (impl.Memory, impl.Value, int) {
	t.Helper()
	before := cloneMemory(m)
	to, v, n := d.done(m)
	wantTo, wantV, wantN := d.byRule(before)
	if !sameMemory(to, wantTo) || v != wantV || n != wantN {
		t.Errorf("%s of %s is %s, %v, %d; want %s, %v, %d", d.text(), memoryTold(before), memoryTold(to), v, n, memoryTold(wantTo), wantV, wantN)
	}
	if !sameMemory(m, before) {
		t.Errorf("%s changes %s to %s", d.text(), memoryTold(before), memoryTold(m))
	}
	return to, v, n
}

func isMemory(t *testing.T, what string, m impl.Memory, want string) {
	t.Helper()
	if got := memoryTold(m); got != want {
		t.Errorf("%s is %s; want %s", what, got, want)
	}
}

func box(at int) impl.Value { return impl.Value{Type: impl.TyBox, Num: at} }

// memoryNumbers are numbers at the edges of what a cell, an Input and an Out may have: all of them.
func memoryNumbers() []int {
	return []int{0, 1, -1, 7, impl.MaxNumber, impl.MaxNumber + 1, -impl.MaxNumber, math.MaxInt, math.MinInt}
}

// everyType has the five types and numbers that are none.
func everyType() []int { return append(oddTypes(), impl.TyNone, 1, 2, 3, 4) }

// placesOf has each of n places, and places that are none.
func placesOf(n int) []int {
	places := append(wrongPlaces(n), -n, 2*n+2)
	for at := range n {
		places = append(places, at)
	}
	return places
}

func everyValue(places []int) []impl.Value {
	var list []impl.Value
	for _, ty := range everyType() {
		for _, at := range places {
			list = append(list, impl.Value{Type: ty, Num: at})
		}
	}
	return list
}

// deedsOver has deeds of each name, over each of the values and the numbers.
func deedsOver(values []impl.Value, numbers []int) []deed {
	list := []deed{{name: "Spend"}, {name: "Asked"}}
	for _, v := range values {
		list = append(list, deed{name: "Moved", v: v}, deed{name: "Freed", v: v}, deed{name: "Looked", v: v})
		for _, n := range []int{0, -7, 77} {
			list = append(list, deed{name: "Written", v: v, a: n})
		}
	}
	for _, n := range numbers {
		list = append(list, deed{name: "Fresh", a: n}, deed{name: "Told", a: n}, deed{name: "Written", v: box(0), a: n})
		for _, other := range numbers {
			list = append(list, deed{name: "Summed", a: n, b: other})
		}
	}
	return list
}

// someMemories have no cells, one, and many, live and not, and odd numbers in them.
func someMemories() []impl.Memory {
	return []impl.Memory{
		{},
		{Fuel: 1},
		{Fuel: -1},
		{Cells: cellsOf("5"), Fuel: 2},
		{Cells: cellsOf("5x"), Input: []int{8}, Fuel: 3},
		{Cells: cellsOf("1 2x 3"), Input: []int{8, 9}, Out: []int{4}, Fuel: 10},
		{Cells: cellsOf("1x 2 3x"), Input: []int{0, 0, 0}, Out: []int{4, 5}, Fuel: math.MaxInt},
		{Cells: cellsOf("-5 0 1000000001 9223372036854775807x -9223372036854775808"), Input: []int{-1, math.MinInt}, Out: []int{math.MaxInt, -1}, Fuel: math.MinInt},
	}
}

func everyBad() []int {
	return []int{1, 2, 3, 4, 5, 6, 77, -1, -5, math.MinInt, math.MaxInt, 1 << 32, 256}
}

func TestEndsByNumber(t *testing.T) {
	ends := []int{impl.OutDone, impl.OutFuel, impl.OutInput, impl.OutOver, impl.OutMoved, impl.OutGone}
	if !slices.Equal(ends, []int{0, 1, 2, 3, 4, 5}) {
		t.Errorf("OutDone .. OutGone are %v", ends)
	}
}

func TestMemoryNew(t *testing.T) {
	for _, fuel := range memoryNumbers() {
		for n := range 5 {
			input := []int{8, -3, math.MaxInt, 0}[:n]
			want := impl.Memory{Input: slices.Clone(input), Fuel: fuel}
			if got := impl.MemoryNew(input, fuel); !sameMemory(got, want) {
				t.Errorf("MemoryNew(%v, %d) = %s", input, fuel, memoryTold(got))
			}
		}
		isMemory(t, "a memory of no Input", impl.MemoryNew(nil, fuel), "[] in out fuel "+strconv.Itoa(fuel)+" bad 0")
	}
	isMemory(t, "MemoryNew", impl.MemoryNew([]int{8, 9}, 5), "[] in 8 9 out fuel 5 bad 0")
}

func TestMemoryOfARow(t *testing.T) {
	m := impl.MemoryNew([]int{8, 9}, 3)
	m = impl.Spend(m)
	isMemory(t, "Spend", m, "[] in 8 9 out fuel 2 bad 0")
	m, a := impl.Fresh(m, 5)
	isMemory(t, "Fresh", m, "[5] in 8 9 out fuel 2 bad 0")
	m, b := impl.Fresh(m, 6)
	isMemory(t, "a second Fresh", m, "[5 6] in 8 9 out fuel 2 bad 0")
	m, c := impl.Moved(m, a)
	isMemory(t, "Moved", m, "[5x 6 5] in 8 9 out fuel 2 bad 0")
	if a != box(0) || b != box(1) || c != box(2) {
		t.Errorf("the boxes are %v, %v and %v", a, b, c)
	}
	m, n := impl.Looked(m, impl.Value{Type: impl.TyRef, Num: 2})
	isMemory(t, "Looked", m, "[5x 6 5] in 8 9 out fuel 2 bad 0")
	m = impl.Written(m, impl.Value{Type: impl.TyMut, Num: 1}, 70)
	isMemory(t, "Written", m, "[5x 70 5] in 8 9 out fuel 2 bad 0")
	m, asked := impl.Asked(m)
	isMemory(t, "Asked", m, "[5x 70 5] in 9 out fuel 2 bad 0")
	m = impl.Told(impl.Told(m, 3), 1)
	isMemory(t, "Told twice", m, "[5x 70 5] in 9 out 3 1 fuel 2 bad 0")
	m, sum := impl.Summed(m, 40, 2)
	isMemory(t, "Summed", m, "[5x 70 5] in 9 out 3 1 fuel 2 bad 0")
	m = impl.Freed(m, b)
	isMemory(t, "Freed", m, "[5x 70x 5] in 9 out 3 1 fuel 2 bad 0")
	if n != 5 || asked != 8 || sum != 42 {
		t.Errorf("looked at %d, asked for %d, summed to %d", n, asked, sum)
	}
	m, n = impl.Looked(m, b)
	isMemory(t, "Looked at what was Freed", m, "[5x 70x 5] in 9 out 3 1 fuel 2 bad 5")
	if n != 0 {
		t.Errorf("Looked at what was Freed tells %d", n)
	}
	isMemory(t, "Spend with a Bad", impl.Spend(m), "[5x 70x 5] in 9 out 3 1 fuel 2 bad 5")
}

func TestSpendByFuel(t *testing.T) {
	for fuel, want := range map[int]string{
		5:             "fuel 4 bad 0",
		2:             "fuel 1 bad 0",
		1:             "fuel 0 bad 0",
		0:             "fuel 0 bad 1",
		-1:            "fuel -1 bad 1",
		-7:            "fuel -7 bad 1",
		math.MinInt:   "fuel -9223372036854775808 bad 1",
		math.MaxInt:   "fuel 9223372036854775806 bad 0",
		100001:        "fuel 100000 bad 0",
		1000000000000: "fuel 999999999999 bad 0",
	} {
		m := impl.Memory{Cells: cellsOf("4 2x"), Input: []int{8}, Out: []int{9}, Fuel: fuel}
		isMemory(t, "Spend of "+strconv.Itoa(fuel), impl.Spend(m), "[4 2x] in 8 out 9 "+want)
	}
	m := impl.MemoryNew(nil, 40)
	for range 40 {
		m = impl.Spend(m)
	}
	isMemory(t, "the last that may be spent", m, "[] in out fuel 0 bad 0")
	isMemory(t, "one more", impl.Spend(m), "[] in out fuel 0 bad 1")
	isMemory(t, "and one more", impl.Spend(impl.Spend(m)), "[] in out fuel 0 bad 1")
}

func TestFreshIsBehindAll(t *testing.T) {
	for _, n := range memoryNumbers() {
		m, v := impl.Fresh(impl.Memory{Cells: cellsOf("4 2x"), Input: []int{8}, Out: []int{9}, Fuel: -3}, n)
		isMemory(t, "Fresh", m, "[4 2x "+strconv.Itoa(n)+"] in 8 out 9 fuel -3 bad 0")
		if v != box(2) {
			t.Errorf("Fresh of %d behind two cells gives %v", n, v)
		}
	}
	var m impl.Memory
	const many = 600
	for k := range many {
		var v impl.Value
		m, v = impl.Fresh(m, 3*k)
		if v != box(k) || len(m.Cells) != k+1 {
			t.Fatalf("Fresh behind %d cells gives %v and %d cells", k, v, len(m.Cells))
		}
	}
	for k := range many {
		if to, n := impl.Looked(m, box(k)); n != 3*k || to.Bad != 0 {
			t.Fatalf("the cell %d of many has %d, and Bad %d", k, n, to.Bad)
		}
	}
	// Behind cells that are not live, too: their room is not taken again.
	gone, v := impl.Fresh(impl.Memory{Cells: cellsOf("1x 2x 3x")}, 4)
	isMemory(t, "Fresh behind what is gone", gone, "[1x 2x 3x 4] in out fuel 0 bad 0")
	if v != box(3) {
		t.Errorf("Fresh behind what is gone gives %v", v)
	}
}

func TestMovedOfEachTypeAndCell(t *testing.T) {
	m := impl.Memory{Cells: cellsOf("10 20x 30"), Input: []int{8}, Out: []int{9}, Fuel: 6}
	behind := " in 8 out 9 fuel 6 bad "
	for at, want := range map[int]string{
		0:           "[10x 20x 30 10]" + behind + "0",
		1:           "[10 20x 30]" + behind + "5",
		2:           "[10 20x 30x 30]" + behind + "0",
		3:           "[10 20x 30]" + behind + "5",
		99:          "[10 20x 30]" + behind + "5",
		-1:          "[10 20x 30]" + behind + "5",
		math.MinInt: "[10 20x 30]" + behind + "5",
		math.MaxInt: "[10 20x 30]" + behind + "5",
	} {
		to, v := impl.Moved(m, box(at))
		isMemory(t, "Moved of the cell "+strconv.Itoa(at), to, want)
		wantV := impl.Value{}
		if to.Bad == 0 {
			wantV = box(3)
		}
		if v != wantV {
			t.Errorf("Moved of the cell %d gives %v", at, v)
		}
	}
	for _, v := range everyValue(placesOf(3)) {
		if v.Type == impl.TyBox {
			continue
		}
		to, same := impl.Moved(m, v)
		isMemory(t, "Moved of no box", to, "[10 20x 30]"+behind+"0")
		if same != v {
			t.Errorf("Moved of %v gives %v", v, same)
		}
	}
}

func TestMovedAgainAndAgain(t *testing.T) {
	m, v := impl.Fresh(impl.Memory{}, 5)
	for k := range 50 {
		if v != box(k) {
			t.Fatalf("moved %d times it is %v", k, v)
		}
		m = impl.Written(m, v, 5+k)
		m, v = impl.Moved(m, v)
	}
	for k := range 50 {
		for _, ty := range []int{impl.TyBox, impl.TyRef, impl.TyMut} {
			old := impl.Value{Type: ty, Num: k}
			if to, n := impl.Looked(m, old); to.Bad != impl.OutGone || n != 0 {
				t.Errorf("what was given away is %d, and Bad %d", n, to.Bad)
			}
			if to := impl.Written(m, old, 1); to.Bad != impl.OutGone || to.Cells[k] != m.Cells[k] {
				t.Errorf("what was given away is written: %s", memoryTold(to))
			}
		}
		if to, again := impl.Moved(m, box(k)); to.Bad != impl.OutGone || again != (impl.Value{}) || len(to.Cells) != 51 {
			t.Errorf("what was given away is given away again: %v, %s", again, memoryTold(to))
		}
		if to := impl.Freed(m, box(k)); !sameMemory(to, m) {
			t.Errorf("what was given away is freed: %s", memoryTold(to))
		}
	}
	if to, n := impl.Looked(m, v); n != 54 || to.Bad != 0 {
		t.Errorf("where it is now it has %d, and Bad %d", n, to.Bad)
	}
}

func TestFreedOfEachTypeAndCell(t *testing.T) {
	m := impl.Memory{Cells: cellsOf("10 20x 30"), Input: []int{8}, Out: []int{9}, Fuel: 6}
	behind := " in 8 out 9 fuel 6 bad 0"
	isMemory(t, "the first one freed", impl.Freed(m, box(0)), "[10x 20x 30]"+behind)
	isMemory(t, "the last one freed", impl.Freed(m, box(2)), "[10 20x 30x]"+behind)
	isMemory(t, "what is gone freed", impl.Freed(m, box(1)), "[10 20x 30]"+behind)
	isMemory(t, "freed twice", impl.Freed(impl.Freed(m, box(0)), box(0)), "[10x 20x 30]"+behind)
	isMemory(t, "both freed", impl.Freed(impl.Freed(m, box(2)), box(0)), "[10x 20x 30x]"+behind)
	isMemory(t, "freed of no cells", impl.Freed(impl.Memory{}, box(0)), "[] in out fuel 0 bad 0")
	for _, v := range everyValue(placesOf(3)) {
		if v.Type != impl.TyBox || v.Num < 0 || v.Num > 2 {
			isMemory(t, "freed of "+strconv.Itoa(v.Type)+":"+strconv.Itoa(v.Num), impl.Freed(m, v), "[10 20x 30]"+behind)
		}
	}
	moved, to := impl.Moved(m, box(0))
	isMemory(t, "freed of what was moved", impl.Freed(moved, box(0)), "[10x 20x 30 10]"+behind)
	isMemory(t, "freed where it was moved to", impl.Freed(moved, to), "[10x 20x 30 10x]"+behind)
}

func TestFreedIsGone(t *testing.T) {
	m := impl.Freed(impl.Memory{Cells: cellsOf("10 20")}, box(0))
	for _, ty := range []int{impl.TyBox, impl.TyRef, impl.TyMut} {
		v := impl.Value{Type: ty, Num: 0}
		to, n := impl.Looked(m, v)
		isMemory(t, "Looked at what was freed", to, "[10x 20] in out fuel 0 bad 5")
		isMemory(t, "Written what was freed", impl.Written(m, v, 7), "[10x 20] in out fuel 0 bad 5")
		if n != 0 {
			t.Errorf("Looked at what was freed tells %d", n)
		}
	}
	to, v := impl.Moved(m, box(0))
	isMemory(t, "Moved of what was freed", to, "[10x 20] in out fuel 0 bad 5")
	if v != (impl.Value{}) {
		t.Errorf("Moved of what was freed gives %v", v)
	}
}

func TestLookedAndWrittenOfEachTypeAndCell(t *testing.T) {
	m := impl.Memory{Cells: cellsOf("10 20x 30"), Input: []int{8}, Out: []int{9}, Fuel: 6}
	behind := " in 8 out 9 fuel 6 bad "
	there := 0
	for _, v := range everyValue(placesOf(3)) {
		what := strconv.Itoa(v.Type) + ":" + strconv.Itoa(v.Num)
		looked, n := impl.Looked(m, v)
		written := impl.Written(m, v, -7)
		if v.Type < impl.TyBox || v.Type > impl.TyMut || v.Num != 0 && v.Num != 2 {
			isMemory(t, "Looked at "+what, looked, "[10 20x 30]"+behind+"5")
			isMemory(t, "Written "+what, written, "[10 20x 30]"+behind+"5")
			if n != 0 {
				t.Errorf("Looked at %s tells %d", what, n)
			}
			continue
		}
		there++
		isMemory(t, "Looked at "+what, looked, "[10 20x 30]"+behind+"0")
		if want := 10 + 10*v.Num; n != want {
			t.Errorf("Looked at %s tells %d", what, n)
		}
		isMemory(t, "Written "+what, written, []string{"[-7 20x 30]", "", "[10 20x -7]"}[v.Num]+behind+"0")
		if _, n := impl.Looked(written, v); n != -7 {
			t.Errorf("what was written at %s is %d", what, n)
		}
	}
	if there != 6 {
		t.Errorf("%d values lead to a cell; want two of each of three types", there)
	}
	for _, n := range memoryNumbers() {
		to := impl.Written(m, box(2), n)
		isMemory(t, "Written", to, "[10 20x "+strconv.Itoa(n)+"]"+behind+"0")
		if to, got := impl.Looked(to, box(2)); got != n || to.Bad != 0 {
			t.Errorf("of %d there is %d, and Bad %d", n, got, to.Bad)
		}
	}
}

func TestAskedByInput(t *testing.T) {
	for _, input := range [][]int{{}, {8}, {0}, {-1}, {8, 9}, {math.MinInt, math.MaxInt, impl.MaxNumber + 1}, {1, 1, 1, 1, 2}} {
		m := impl.Memory{Cells: cellsOf("3"), Input: slices.Clone(input), Out: []int{9}, Fuel: -6}
		for k := range input {
			var n int
			m, n = impl.Asked(m)
			if n != input[k] || !slices.Equal(m.Input, input[k+1:]) || m.Bad != 0 {
				t.Fatalf("Asked the time %d of %v: %d, %s", k, input, n, memoryTold(m))
			}
		}
		for range 3 {
			var n int
			m, n = impl.Asked(m)
			isMemory(t, "Asked without Input", m, "[3] in out 9 fuel -6 bad 2")
			if n != 0 {
				t.Errorf("Asked without Input tells %d", n)
			}
		}
	}
}

func TestToldIsBehindAll(t *testing.T) {
	m := impl.Memory{Cells: cellsOf("3"), Input: []int{8}, Fuel: -6}
	var want []int
	for k := range 300 {
		n := memoryNumbers()[k%len(memoryNumbers())]
		want = append(want, n)
		if m = impl.Told(m, n); !slices.Equal(m.Out, want) || m.Bad != 0 {
			t.Fatalf("Told of %d: %s", n, memoryTold(m))
		}
	}
	isMemory(t, "Told", impl.Told(impl.Memory{Cells: cellsOf("3"), Input: []int{8}, Out: []int{9}}, 7), "[3] in 8 out 9 7 fuel 0 bad 0")
	isMemory(t, "Told first", impl.Told(impl.Memory{}, 0), "[] in out 0 fuel 0 bad 0")
}

func TestSummedForms(t *testing.T) {
	const most = 1000000000
	for _, x := range []struct{ a, b, want int }{
		{0, 0, 0}, {0, 1, 1}, {1, 0, 1}, {40, 2, 42}, {0, most, most}, {most, 0, most},
		{1, most - 1, most}, {most - 1, 1, most}, {most / 2, most / 2, most},
		{most, 1, -1}, {1, most, -1}, {most - 1, 2, -1}, {most / 2, most/2 + 1, -1}, {most, most, -1},
		{-1, 1, -1}, {1, -1, -1}, {-1, 0, -1}, {0, -1, -1}, {-1, -1, -1}, {-1, 2, -1}, {7, -3, -1},
		{most + 1, -1, -1}, {-1, most + 1, -1}, {most + 1, 0, -1}, {0, most + 1, -1}, {most + 5, -most, -1}, {-most, most, -1},
		{math.MaxInt, math.MinInt, -1}, {math.MinInt, math.MaxInt, -1}, {math.MaxInt, 1, -1}, {math.MaxInt, math.MaxInt, -1},
		{math.MinInt, math.MinInt, -1}, {math.MinInt, 0, -1}, {0, math.MaxInt, -1}, {math.MinInt, -1, -1}, {1, math.MaxInt, -1},
		{1 << 32, 0, -1}, {1 << 32, -(1 << 32), -1}, {1<<32 + 5, 3, -1},
	} {
		m, n := impl.Summed(impl.Memory{Cells: cellsOf("3 4x"), Input: []int{8}, Out: []int{9}, Fuel: 6}, x.a, x.b)
		bad, want := "0", x.want
		if want < 0 {
			bad, want = "3", 0
		}
		isMemory(t, "Summed", m, "[3 4x] in 8 out 9 fuel 6 bad "+bad)
		if n != want {
			t.Errorf("Summed of %d and %d tells %d", x.a, x.b, n)
		}
	}
}

func TestMemoryDeedsAreTheRule(t *testing.T) {
	asked := map[string]int{}
	for _, m := range someMemories() {
		for _, d := range deedsOver(everyValue(placesOf(len(m.Cells))), memoryNumbers()) {
			d.holds(t, m)
			asked[d.name]++
		}
	}
	for _, name := range deedNames() {
		if asked[name] == 0 {
			t.Errorf("%s is not asked for", name)
		}
	}
}

func TestMemoryWithABadStaysAsItIs(t *testing.T) {
	for _, bad := range everyBad() {
		for _, m := range someMemories() {
			m.Bad = bad
			values := everyValue([]int{-1, 0, 1, len(m.Cells) - 1, len(m.Cells)})
			for _, d := range deedsOver(values, []int{0, 1, -1, impl.MaxNumber, math.MaxInt}) {
				to, v, n := d.done(m)
				if !sameMemory(to, m) || v != (impl.Value{}) || n != 0 {
					t.Fatalf("%s of %s is %s, %v, %d", d.text(), memoryTold(m), memoryTold(to), v, n)
				}
			}
		}
	}
}

func TestWhatWentWrongFirstStays(t *testing.T) {
	wrongs := []deed{{name: "Spend"}, {name: "Asked"}, {name: "Summed", a: -1}, {name: "Looked", v: box(1)}, {name: "Written", v: box(7)}, {name: "Moved", v: box(1)}}
	for k, want := range []int{impl.OutFuel, impl.OutInput, impl.OutOver, impl.OutGone, impl.OutGone, impl.OutGone} {
		m, _, _ := wrongs[k].done(impl.Memory{Cells: cellsOf("1 2x")})
		if m.Bad != want {
			t.Fatalf("%s is Bad %d", wrongs[k].text(), m.Bad)
		}
		for _, d := range wrongs {
			if m, _, _ = d.done(m); m.Bad != want {
				t.Errorf("%s makes Bad %d of %d", d.text(), m.Bad, want)
			}
		}
	}
}

// anyDeed makes a deed that mostly goes well; now and then it is wrong.
func anyDeed(d *dice, m impl.Memory, careless int) deed {
	at := deed{name: deedNames()[d.below(9)], v: impl.Value{Type: impl.TyBox + d.below(3), Num: d.below(len(m.Cells) + 1)}, a: d.below(100), b: d.below(100)}
	// Mostly one of the last cells, which is seldom gone.
	if back := 1 + d.below(3); d.below(3) > 0 && back <= len(m.Cells) {
		at.v.Num = len(m.Cells) - back
	}
	live := at.v.Num < len(m.Cells) && m.Cells[at.v.Num].Live
	if d.below(careless) > 0 && (!live && slices.Contains([]string{"Moved", "Looked", "Written"}, at.name) || len(m.Input) == 0 && at.name == "Asked") {
		at.name = "Fresh"
	}
	switch d.below(8 * careless) {
	case 0:
		at.v.Type = everyType()[d.below(len(everyType()))]
	case 1:
		at.a = memoryNumbers()[d.below(len(memoryNumbers()))]
	}
	return at
}

func TestMemoryOfAnyRows(t *testing.T) {
	ends, longest := map[int]int{}, 0
	for start := range 400 {
		d := dice(start)
		var input []int
		for range d.below(30) {
			input = append(input, d.below(50))
		}
		m := impl.MemoryNew(input, d.below(60))
		var row, before []impl.Memory
		for range 150 {
			row, before = append(row, m), append(before, cloneMemory(m))
			if m, _, _ = anyDeed(&d, m, 60).holds(t, m); t.Failed() {
				t.Fatalf("start %d", start)
			}
			if m.Bad == 0 {
				longest = max(longest, len(row))
			}
		}
		// Each memory of the row is still what it was, whatever was done behind it.
		for k := range row {
			if !sameMemory(row[k], before[k]) {
				t.Fatalf("start %d: the memory %d is %s; it was %s", start, k, memoryTold(row[k]), memoryTold(before[k]))
			}
		}
		ends[m.Bad]++
	}
	if ends[0] < 20 || ends[1] < 20 || ends[2] < 3 || ends[3] < 3 || ends[5] < 20 || longest < 150 {
		t.Errorf("rows end with %v, the longest at %d: the test tells little", ends, longest)
	}
}

// TestGoneIsGoneAndThereIsThere follows each box from where it is made to where it ends, and asks for all of them after each step.
func TestGoneIsGoneAndThereIsThere(t *testing.T) {
	given, freed, moved := 0, 0, 0
	for start := range 60 {
		d := dice(start + 1000)
		m := impl.MemoryNew(nil, 0)
		have := map[int]int{}
		for range 60 {
			at := d.below(len(m.Cells) + 1)
			n, there := have[at]
			switch pick := d.below(5); {
			case !there || pick == 0:
				var v impl.Value
				m, v = impl.Fresh(m, d.below(1000))
				have[v.Num] = m.Cells[v.Num].Num
				given++
			case pick == 1:
				var v impl.Value
				m, v = impl.Moved(m, box(at))
				delete(have, at)
				have[v.Num] = n
				moved++
			case pick == 2:
				m = impl.Freed(m, box(at))
				delete(have, at)
				freed++
			default:
				have[at] = d.below(1000)
				m = impl.Written(m, impl.Value{Type: impl.TyBox + d.below(3), Num: at}, have[at])
			}
			areThere(t, m, have)
		}
	}
	if given < 500 || moved < 100 || freed < 100 {
		t.Errorf("%d made, %d moved, %d freed: the test tells little", given, moved, freed)
	}
}

// areThere looks at each cell in each way: it has what it should have, or is gone.
func areThere(t *testing.T, m impl.Memory, have map[int]int) {
	t.Helper()
	for at := -1; at <= len(m.Cells); at++ {
		for _, ty := range []int{impl.TyBox, impl.TyRef, impl.TyMut} {
			to, got := impl.Looked(m, impl.Value{Type: ty, Num: at})
			n, there := have[at]
			if there && (got != n || to.Bad != 0) {
				t.Fatalf("the cell %d has %d, and Bad %d; want %d", at, got, to.Bad, n)
			}
			if !there && (got != 0 || to.Bad != impl.OutGone) {
				t.Fatalf("the cell %d, which is gone, has %d, and Bad %d", at, got, to.Bad)
			}
		}
	}
}

func TestMemoryKeepsNothing(t *testing.T) {
	m := impl.Memory{Cells: cellsOf("1 2x 3"), Input: []int{8}, Out: []int{4}, Fuel: 2}
	deeds := deedsOver(everyValue([]int{-1, 0, 1, 2, 3}), []int{0, 5, impl.MaxNumber})
	for range 3 {
		for _, d := range deeds {
			d.holds(t, m)
		}
		isMemory(t, "MemoryNew", impl.MemoryNew(nil, 1), "[] in out fuel 1 bad 0")
		slices.Reverse(deeds)
	}
}

// roomyMemory gives the memory with spare room behind each list, filled with what nobody would write.
func roomyMemory(m impl.Memory) impl.Memory {
	room := impl.Cell{Live: true, Num: -77}
	m.Cells = append(append(make([]impl.Cell, 0, len(m.Cells)+3), m.Cells...), room, room, room)[:len(m.Cells)]
	m.Input = append(append(make([]int, 0, len(m.Input)+3), m.Input...), -77, -77, -77)[:len(m.Input)]
	m.Out = append(append(make([]int, 0, len(m.Out)+3), m.Out...), -77, -77, -77)[:len(m.Out)]
	return m
}

// isUntouched tells whether a memory is as it was, and the room behind each list too.
func isUntouched(m, before impl.Memory) bool {
	for k := range 3 {
		if m.Cells[:len(m.Cells)+3][len(m.Cells)+k] != (impl.Cell{Live: true, Num: -77}) || m.Input[:len(m.Input)+3][len(m.Input)+k] != -77 || m.Out[:len(m.Out)+3][len(m.Out)+k] != -77 {
			return false
		}
	}
	return sameMemory(m, before)
}

func TestMemoryArgumentsStayAsTheyAre(t *testing.T) {
	for _, base := range someMemories() {
		for _, bad := range []int{0, 4} {
			base.Bad = bad
			for _, d := range deedsOver(everyValue([]int{-1, 0, 1, 2, 5}), []int{0, 5, -5, impl.MaxNumber}) {
				m := roomyMemory(base)
				to, _, _ := d.done(m)
				if !isUntouched(m, base) {
					t.Fatalf("%s changes what is handed in: %s", d.text(), memoryTold(m))
				}
				overwrite(to)
				if !isUntouched(m, base) {
					t.Fatalf("who writes into what %s gives changes what is handed in: %s", d.text(), memoryTold(m))
				}
			}
		}
	}
	input := append(make([]int, 0, 6), 8, 9, -77, -77)[:2]
	m := impl.MemoryNew(input, 3)
	overwrite(m)
	if !slices.Equal(input[:4], []int{8, 9, -77, -77}) {
		t.Errorf("MemoryNew shares its Input: %v", input[:4])
	}
}

// overwrite writes into all lists of a memory, and the room behind them.
func overwrite(m impl.Memory) {
	for k := range m.Cells[:cap(m.Cells)] {
		m.Cells[:cap(m.Cells)][k] = impl.Cell{Num: -99}
	}
	for k := range m.Input[:cap(m.Input)] {
		m.Input[:cap(m.Input)][k] = -99
	}
	for k := range m.Out[:cap(m.Out)] {
		m.Out[:cap(m.Out)][k] = -99
	}
}

func TestMemoryAnswersStayWhenArgumentsChange(t *testing.T) {
	for _, base := range someMemories() {
		for _, d := range deedsOver(everyValue([]int{0, 2}), []int{0, 5}) {
			m := roomyMemory(base)
			to, _, _ := d.done(m)
			overwrite(m)
			if want, _, _ := d.byRule(base); !sameMemory(to, want) {
				t.Fatalf("%s hangs on what is written later: %s; want %s", d.text(), memoryTold(to), memoryTold(want))
			}
		}
	}
	input := []int{8, 9}
	m := impl.MemoryNew(input, 3)
	input[0] = 1
	isMemory(t, "MemoryNew of what is written later", m, "[] in 8 9 out fuel 3 bad 0")
}

func memorySpans(m impl.Memory) []span {
	list := []span{spanOf(m.Cells), spanOf(m.Input), spanOf(m.Out)}
	return slices.DeleteFunc(list, func(s span) bool { return s.from == s.to })
}

func TestMemoryAnswersAreNewMemory(t *testing.T) {
	for _, base := range someMemories() {
		for _, bad := range []int{0, 4} {
			base.Bad = bad
			m := roomyMemory(base)
			for _, d := range deedsOver(everyValue([]int{-1, 0, 1, 2, 5}), []int{0, 5, -5}) {
				first, _, _ := d.done(m)
				second, _, _ := d.done(m)
				if meet(slices.Concat(memorySpans(m), memorySpans(first), memorySpans(second))) {
					t.Fatalf("what %s of %s gives shares memory", d.text(), memoryTold(m))
				}
			}
		}
	}
	input := []int{8, 9}
	if meet(slices.Concat([]span{spanOf(input)}, memorySpans(impl.MemoryNew(input, 1)), memorySpans(impl.MemoryNew(input, 1)))) {
		t.Error("MemoryNew shares memory")
	}
}

func TestMemoryOfListsThatShareTheirRoom(t *testing.T) {
	for _, d := range []deed{{name: "Told", a: 7}, {name: "Asked"}, {name: "Spend"}, {name: "Fresh", a: 1}, {name: "Looked", v: box(0)}} {
		room := []int{1, 2, 3, 4}
		m := impl.Memory{Cells: cellsOf("5"), Input: room[1:3], Out: room[:2], Fuel: 2}
		to, _, _ := d.holds(t, m)
		if !slices.Equal(room, []int{1, 2, 3, 4}) {
			t.Errorf("%s writes into the room of its lists: %v", d.text(), room)
		}
		if meet(append(memorySpans(to), spanOf(room))) {
			t.Errorf("lists of what %s gives share their room", d.text())
		}
	}
}
