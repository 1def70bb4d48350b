package tests

import (
	"math"
	"testing"

	"loop.example/tableminors/impl"
)

// P1 and the rules for all tables.

func TestTableInTables(t *testing.T) {
	for _, u := range samples() {
		if !impl.TableIn(u) {
			t.Errorf("TableIn(%v) is false", u)
		}
	}
	for _, height := range sides {
		for _, width := range sides {
			for _, entry := range []int{-30, -29, -1, 0, 1, 29, 30} {
				u := filled(height, width, 0)
				u[height-1][width-1] = entry
				if !impl.TableIn(u) {
					t.Errorf("TableIn(%v) is false", u)
				}
			}
		}
	}
	row := []int{1, 2}
	if !impl.TableIn([][]int{row, row}) {
		t.Error("TableIn is false for rows that share memory")
	}
}

func TestTableInOthers(t *testing.T) {
	for _, u := range noTables() {
		if impl.TableIn(u) {
			t.Errorf("TableIn is true for %d rows", len(u))
		}
	}
	for _, entry := range []int{-31, 31, -32, 32, 100, -100, math.MinInt, math.MaxInt} {
		for i := range 3 {
			for k := range 4 {
				u := filled(3, 4, 0)
				u[i][k] = entry
				if impl.TableIn(u) {
					t.Errorf("TableIn(%v) is true", u)
				}
			}
		}
	}
	for i := range 6 {
		for _, length := range []int{0, 1, 2, 4, 5, 6, 7, 8} {
			u := filled(6, 3, 1)
			u[i] = make([]int, length)
			if impl.TableIn(u) {
				t.Errorf("TableIn(%v) is true", u)
			}
		}
	}
}

func TestLimits(t *testing.T) {
	if impl.SideMax != 6 || impl.EntryMax != 30 {
		t.Errorf("SideMax is %d and EntryMax %d", impl.SideMax, impl.EntryMax)
	}
}

func TestPromise1(t *testing.T) {
	for _, u := range samples() {
		x, ok := impl.TableTurn(u)
		if !ok || !impl.TableIn(x) {
			t.Errorf("TableTurn(%v) is %v, %v, no table", u, x, ok)
		}
		if !impl.TableSame(u, u) || !impl.TableSame(u, loose(u)) {
			t.Errorf("TableSame does not hold for %v and itself", u)
		}
	}
	for _, u := range noTables() {
		x, ok := impl.TableTurn(u)
		wantFailure(t, "TableTurn of no table", x, ok)
		if impl.TableSame(u, u) {
			t.Errorf("TableSame holds for what is no table and itself, of %d rows", len(u))
		}
	}
}

func TestTableSame(t *testing.T) {
	all := samples()
	for _, u := range all {
		for _, w := range all {
			if impl.TableSame(u, w) != same(u, w) || impl.TableSame(w, u) != same(u, w) {
				t.Errorf("TableSame(%v, %v) is not %v", u, w, same(u, w))
			}
		}
		for i := range u {
			for k := range u[i] {
				w := loose(u)
				w[i][k] = (w[i][k]+31)%61 - 30
				if impl.TableSame(u, w) || impl.TableSame(w, u) {
					t.Errorf("TableSame(%v, %v) holds", u, w)
				}
			}
		}
	}
	for _, u := range noTables() {
		for _, w := range [][][]int{{{1}}, {{0, 0}}, filled(6, 6, 1), filled(3, 2, 1)} {
			if impl.TableSame(u, w) || impl.TableSame(w, u) {
				t.Errorf("TableSame holds for %v and no table of %d rows", w, len(u))
			}
		}
	}
}

func TestTableSameSides(t *testing.T) {
	for _, pair := range [][2][][]int{
		{{{1, 2}}, {{1}, {2}}}, {{{1, 2}}, {{1, 2}, {1, 2}}}, {{{1}}, {{1, 1}}}, {{{1, 2}, {3, 4}}, {{1, 2}}},
		{{{1, 2}, {3, 4}}, {{1}, {3}}}, {{{0, 0}}, {{0, 0, 0}}}, {filled(5, 6, 0), filled(6, 6, 0)},
	} {
		if impl.TableSame(pair[0], pair[1]) || impl.TableSame(pair[1], pair[0]) {
			t.Errorf("TableSame holds for %v and %v", pair[0], pair[1])
		}
	}
}

// P2.

func sums(u, w [][]int) [][]int {
	x := filled(len(u), len(u[0]), 0)
	for i := range x {
		for k := range x[i] {
			x[i][k] = u[i][k] + w[i][k]
		}
	}
	return x
}

func TestPromise2(t *testing.T) {
	all := samples()
	for _, u := range all {
		for _, w := range all {
			x, ok := impl.TableSum(u, w)
			y, back := impl.TableSum(w, u)
			if len(u) != len(w) || len(u[0]) != len(w[0]) {
				wantFailure(t, call("TableSum", u, w), x, ok)
				continue
			}
			wantIf(t, call("TableSum", u, w), x, ok, sums(u, w))
			if ok != back || !same(x, y) {
				t.Errorf("TableSum(%v, %v) is %v, and exchanged %v", u, w, x, y)
			}
			z, ok2 := impl.TableSum(turned(u), turned(w))
			if ok != ok2 || ok && !same(turned(x), z) {
				t.Errorf("TableSum(%v, %v) is %v, and of both turned %v", u, w, x, z)
			}
		}
	}
}

func TestTableSumLimits(t *testing.T) {
	for _, c := range []struct {
		a, b int
		ok   bool
	}{{15, 15, true}, {15, 16, false}, {-15, -15, true}, {-15, -16, false}, {30, 0, true}, {0, 30, true}, {30, 1, false},
		{-30, -1, false}, {-30, 0, true}, {30, -30, true}, {30, 30, false}, {-30, -30, false}, {1, 29, true}} {
		for _, sides := range [][2]int{{1, 1}, {1, 6}, {6, 1}, {2, 3}, {6, 6}} {
			u, w := filled(sides[0], sides[1], 0), filled(sides[0], sides[1], 0)
			u[sides[0]-1][sides[1]-1], w[sides[0]-1][sides[1]-1] = c.a, c.b
			x, ok := impl.TableSum(u, w)
			if ok != c.ok {
				t.Errorf("TableSum(%v, %v) returned %v", u, w, ok)
			}
			wantIf(t, call("TableSum", u, w), x, ok, sums(u, w))
		}
	}
	x, ok := impl.TableSum([][]int{{1, -2}, {3, 4}}, [][]int{{10, 20}, {-30, 0}})
	wantTable(t, "TableSum", x, ok, [][]int{{11, 18}, {-27, 4}})
}

func TestTableSumOthers(t *testing.T) {
	for _, u := range noTables() {
		for _, w := range [][][]int{{{1}}, filled(3, 2, 0), filled(6, 6, 0), filled(2, 2, -1), u} {
			x, ok := impl.TableSum(u, w)
			wantFailure(t, "TableSum of no table", x, ok)
			x, ok = impl.TableSum(w, u)
			wantFailure(t, "TableSum with no table", x, ok)
		}
	}
}

// P3.

func timesOf(u [][]int, k int) [][]int {
	x := filled(len(u), len(u[0]), 0)
	for i := range x {
		for j := range x[i] {
			x[i][j] = u[i][j] * k
		}
	}
	return x
}

func TestPromise3(t *testing.T) {
	for _, u := range samples() {
		for k := -30; k <= 30; k++ {
			x, ok := impl.TableTimes(u, k)
			wantIf(t, call("TableTimes", u, k), x, ok, timesOf(u, k))
			if ok && k > 0 {
				less, ok1 := impl.TableTimes(u, k-1)
				y, ok2 := impl.TableSum(less, u)
				if !ok1 || !ok2 || !impl.TableSame(x, y) {
					t.Errorf("TableTimes(%v, %d) is %v, but the sum for %d is %v", u, k, x, k-1, y)
				}
			}
		}
	}
}

func TestTableTimesLimits(t *testing.T) {
	for _, c := range []struct {
		entry, k int
		ok       bool
	}{{1, 30, true}, {1, 31, false}, {1, -30, true}, {1, -31, false}, {0, 30, true}, {0, 31, false}, {0, -30, true}, {0, -31, false},
		{2, 15, true}, {2, 16, false}, {-2, 15, true}, {-2, 16, false}, {2, -15, true}, {2, -16, false}, {30, 1, true}, {30, -1, true},
		{30, 2, false}, {-30, -1, true}, {-30, -2, false}, {30, 0, true}, {31, 0, false}, {31, 1, false}} {
		for _, sides := range [][2]int{{1, 1}, {1, 6}, {6, 1}, {6, 6}} {
			u := filled(sides[0], sides[1], 0)
			u[sides[0]-1][sides[1]-1] = c.entry
			x, ok := impl.TableTimes(u, c.k)
			if ok != c.ok {
				t.Errorf("TableTimes(%v, %d) returned %v", u, c.k, ok)
			}
			if c.ok {
				wantTable(t, call("TableTimes", u, c.k), x, ok, timesOf(u, c.k))
			} else {
				wantFailure(t, call("TableTimes", u, c.k), x, ok)
			}
		}
	}
}

func TestTableTimesOthers(t *testing.T) {
	for _, k := range sizes {
		if k >= -30 && k <= 30 {
			continue
		}
		for _, u := range [][][]int{{{0}}, {{1}}, filled(6, 6, 0), filled(2, 3, 1)} {
			x, ok := impl.TableTimes(u, k)
			wantFailure(t, call("TableTimes", u, k), x, ok)
		}
	}
	for _, u := range noTables() {
		for _, k := range []int{0, 1, -1, 30, 31, math.MinInt, math.MaxInt} {
			x, ok := impl.TableTimes(u, k)
			wantFailure(t, "TableTimes of no table", x, ok)
		}
	}
}

// P4.

func productOf(u, w [][]int) [][]int {
	x := filled(len(u), len(w[0]), 0)
	for i := range u {
		for j := range w {
			for k := range w[j] {
				x[i][k] += u[i][j] * w[j][k]
			}
		}
	}
	return x
}

func TestPromise4(t *testing.T) {
	succeeded := 0
	for _, height := range sides {
		for _, middle := range sides {
			for _, width := range sides {
				for seed, limit := range []int{1, 2, 3, 6, 30} {
					u, w := sample(height, middle, limit, seed), sample(middle, width, limit, seed+50)
					x, ok := impl.TableMake(u, w)
					wantIf(t, call("TableMake", u, w), x, ok, productOf(u, w))
					y, ok2 := impl.TableMake(turned(w), turned(u))
					if ok != ok2 || ok && !same(turned(x), y) {
						t.Errorf("TableMake(%v, %v) is %v, and turned and exchanged %v", u, w, x, y)
					}
					if ok {
						succeeded++
					}
				}
			}
		}
	}
	if succeeded < 100 {
		t.Errorf("only %d products are tables", succeeded)
	}
}

func TestPromise4Units(t *testing.T) {
	for _, u := range samples() {
		left, ok1 := impl.TableUnit(len(u))
		right, ok2 := impl.TableUnit(len(u[0]))
		if !ok1 || !ok2 {
			t.Fatal("TableUnit failed")
		}
		x, ok := impl.TableMake(left, u)
		wantTable(t, "TableMake with a unit square in front", x, ok, u)
		x, ok = impl.TableMake(u, right)
		wantTable(t, "TableMake with a unit square behind", x, ok, u)
	}
}

func TestTableMakeLimits(t *testing.T) {
	for _, c := range []struct {
		u, w [][]int
		want [][]int
	}{
		{[][]int{{1, 2}, {3, 4}}, [][]int{{0, 1}, {1, 0}}, [][]int{{2, 1}, {4, 3}}},
		{[][]int{{0, 1}, {1, 0}}, [][]int{{1, 2}, {3, 4}}, [][]int{{3, 4}, {1, 2}}},
		{[][]int{{1, 2, 3}}, [][]int{{1}, {0}, {-1}}, [][]int{{-2}}},
		{[][]int{{1}, {0}, {-1}}, [][]int{{1, 2, 3}}, [][]int{{1, 2, 3}, {0, 0, 0}, {-1, -2, -3}}},
		{[][]int{{5, 1}}, [][]int{{6}, {0}}, [][]int{{30}}},
		{[][]int{{-5, 1}}, [][]int{{6}, {0}}, [][]int{{-30}}},
		{[][]int{{30, 30}}, [][]int{{30}, {-30}}, [][]int{{0}}},
		{[][]int{{30, 30, 1}}, [][]int{{30}, {-30}, {30}}, [][]int{{30}}},
		{[][]int{{1, 1, 1, 1, 1, 1}}, [][]int{{5}, {5}, {5}, {5}, {5}, {5}}, [][]int{{30}}},
		{[][]int{{30}}, [][]int{{1}}, [][]int{{30}}},
		{filled(6, 1, 5), filled(1, 6, 6), filled(6, 6, 30)},
		{filled(6, 6, 1), filled(6, 6, -5), filled(6, 6, -30)},
	} {
		x, ok := impl.TableMake(c.u, c.w)
		wantTable(t, call("TableMake", c.u, c.w), x, ok, c.want)
	}
	for _, c := range [][2][][]int{
		{{{5, 1}}, {{6}, {1}}}, {{{-5, -1}}, {{6}, {1}}}, {{{30}}, {{2}}}, {{{30}}, {{-2}}}, {{{1}, {30}}, {{1, 2}}},
		{filled(6, 1, 6), filled(1, 6, 6)}, {filled(6, 6, 1), filled(6, 6, 6)}, {filled(6, 6, 30), filled(6, 6, 30)},
		{{{1, 2, 3}}, {{1, 2, 3}}}, {{{1}, {2}}, {{1}, {2}}}, {{{1, 2}}, {{1}}}, {{{1}}, {{1}, {2}}}, {{{0}}, {{0}, {0}}},
		{filled(6, 5, 0), filled(6, 6, 0)}, {filled(6, 6, 0), filled(5, 6, 0)}, {{{0, 0}}, {{0, 0}}},
	} {
		x, ok := impl.TableMake(c[0], c[1])
		wantFailure(t, call("TableMake", c[0], c[1]), x, ok)
	}
}

func TestTableMakeOthers(t *testing.T) {
	for _, u := range noTables() {
		for _, w := range [][][]int{{{1}}, {{0}}, filled(2, 2, 0), filled(2, 3, 0), filled(6, 6, 0), filled(1, 6, 0), filled(6, 1, 0), u} {
			x, ok := impl.TableMake(u, w)
			wantFailure(t, "TableMake of no table", x, ok)
			x, ok = impl.TableMake(w, u)
			wantFailure(t, "TableMake with no table", x, ok)
		}
	}
}

func TestTableUnit(t *testing.T) {
	for n, want := range [][][]int{nil, {{1}}, {{1, 0}, {0, 1}}, {{1, 0, 0}, {0, 1, 0}, {0, 0, 1}}} {
		x, ok := impl.TableUnit(n)
		if n > 0 {
			wantTable(t, call("TableUnit", n), x, ok, want)
		} else {
			wantFailure(t, call("TableUnit", n), x, ok)
		}
	}
	for _, n := range sides {
		x, ok := impl.TableUnit(n)
		want := filled(n, n, 0)
		for i := range want {
			want[i][i] = 1
		}
		wantTable(t, call("TableUnit", n), x, ok, want)
		y, ok := impl.TableMake(x, x)
		wantTable(t, "the product of a unit square and itself", y, ok, x)
	}
	for _, n := range sizes {
		if n != 6 {
			x, ok := impl.TableUnit(n)
			wantFailure(t, call("TableUnit", n), x, ok)
		}
	}
}

// P5.

func TestPromise5(t *testing.T) {
	for _, u := range samples() {
		x, ok := impl.TableTurn(u)
		wantTable(t, call("TableTurn", u), x, ok, turned(u))
		y, ok := impl.TableTurn(x)
		wantTable(t, call("TableTurn", x), y, ok, u)
	}
	for _, c := range [][2][][]int{{{{1, 2, 3}}, {{1}, {2}, {3}}}, {{{1, 2}, {3, 4}}, {{1, 3}, {2, 4}}}, {{{7}}, {{7}}},
		{{{1, 2, 3}, {4, 5, 6}}, {{1, 4}, {2, 5}, {3, 6}}}} {
		x, ok := impl.TableTurn(c[0])
		wantTable(t, call("TableTurn", c[0]), x, ok, c[1])
		x, ok = impl.TableTurn(c[1])
		wantTable(t, call("TableTurn", c[1]), x, ok, c[0])
	}
	for _, u := range noTables() {
		x, ok := impl.TableTurn(u)
		wantFailure(t, "TableTurn of no table", x, ok)
	}
}

// P6.

func partOf(u [][]int, rows, columns int) [][]int {
	x := [][]int{}
	for i, row := range u {
		if rows&(1<<i) == 0 {
			continue
		}
		r := []int{}
		for k, entry := range row {
			if columns&(1<<k) != 0 {
				r = append(r, entry)
			}
		}
		x = append(x, r)
	}
	return x
}

func members(set int) int {
	n := 0
	for ; set > 0; set /= 2 {
		n += set % 2
	}
	return n
}

func TestPromise6(t *testing.T) {
	for _, height := range sides {
		for _, width := range sides {
			u := sample(height, width, 30, 9)
			for rows := 1; rows < 1<<height; rows++ {
				for columns := 1; columns < 1<<width; columns++ {
					x, ok := impl.TablePart(u, rows, columns)
					if !ok || len(x) != members(rows) || len(x[0]) != members(columns) || !same(x, partOf(u, rows, columns)) {
						t.Fatalf("TablePart(%v, %d, %d) returned %v, %v", u, rows, columns, x, ok)
					}
					y, ok := impl.TablePart(turned(u), columns, rows)
					if !ok || !same(turned(x), y) {
						t.Fatalf("TablePart(%v, %d, %d) is %v, and turned %v", u, rows, columns, x, y)
					}
				}
			}
		}
	}
}

func TestTablePartExamples(t *testing.T) {
	u := [][]int{{1, 2, 3}, {4, 5, 6}}
	for _, c := range []struct {
		rows, columns int
		want          [][]int
	}{{1, 1, [][]int{{1}}}, {2, 4, [][]int{{6}}}, {2, 5, [][]int{{4, 6}}}, {3, 7, u}, {3, 3, [][]int{{1, 2}, {4, 5}}},
		{3, 6, [][]int{{2, 3}, {5, 6}}}, {1, 7, [][]int{{1, 2, 3}}}, {3, 2, [][]int{{2}, {5}}}} {
		x, ok := impl.TablePart(u, c.rows, c.columns)
		wantTable(t, call("TablePart", u, c.rows, c.columns), x, ok, c.want)
	}
}

func TestTablePartOtherSets(t *testing.T) {
	for _, u := range samples() {
		rows, columns := 1<<len(u)-1, 1<<len(u[0])-1
		for _, set := range append([]int{0, rows + 1, 2*rows + 1, rows + 2, 1 << 6, 1<<6 + 1, 127, 1<<62 + 1, -rows, -rows - 1, math.MinInt + 1}, sizes...) {
			if set > rows || set <= 0 {
				x, ok := impl.TablePart(u, set, columns)
				wantFailure(t, call("TablePart", u, set, columns), x, ok)
				x, ok = impl.TablePart(u, set, 1)
				wantFailure(t, call("TablePart", u, set, 1), x, ok)
				x, ok = impl.TablePart(u, set, set)
				wantFailure(t, call("TablePart", u, set, set), x, ok)
			}
			if set > columns || set <= 0 || set == columns+1 {
				x, ok := impl.TablePart(u, rows, set)
				wantFailure(t, call("TablePart", u, rows, set), x, ok)
				x, ok = impl.TablePart(u, 1, set)
				wantFailure(t, call("TablePart", u, 1, set), x, ok)
			}
		}
		for _, set := range []int{columns + 1, 2*columns + 1, -columns, -columns - 1} {
			x, ok := impl.TablePart(u, rows, set)
			wantFailure(t, call("TablePart", u, rows, set), x, ok)
		}
	}
	for _, u := range noTables() {
		for _, set := range []int{0, 1, 3, -1, math.MaxInt, math.MinInt} {
			x, ok := impl.TablePart(u, set, 1)
			wantFailure(t, "TablePart of no table", x, ok)
			x, ok = impl.TablePart(u, 1, set)
			wantFailure(t, "TablePart of no table", x, ok)
		}
	}
}

// P7.

func besideOf(u, w [][]int) [][]int {
	x := filled(len(u)+len(w), len(u[0])+len(w[0]), 0)
	for i := range u {
		copy(x[i], u[i])
	}
	for i := range w {
		copy(x[len(u)+i][len(u[0]):], w[i])
	}
	return x
}

func TestPromise7(t *testing.T) {
	all := samples()
	for _, u := range all {
		for _, w := range all {
			x, ok := impl.TableBeside(u, w)
			height, width := len(u)+len(w), len(u[0])+len(w[0])
			if height > 6 || width > 6 {
				wantFailure(t, call("TableBeside", u, w), x, ok)
				continue
			}
			wantTable(t, call("TableBeside", u, w), x, ok, besideOf(u, w))
			rows, columns := 1<<len(u)-1, 1<<len(u[0])-1
			y, ok := impl.TablePart(x, rows, columns)
			wantTable(t, "the first part", y, ok, u)
			y, ok = impl.TablePart(x, 1<<height-1-rows, 1<<width-1-columns)
			wantTable(t, "the second part", y, ok, w)
		}
	}
}

func TestTableBesideLimits(t *testing.T) {
	x, ok := impl.TableBeside([][]int{{1, 2}}, [][]int{{3}, {4}})
	wantTable(t, "TableBeside", x, ok, [][]int{{1, 2, 0}, {0, 0, 3}, {0, 0, 4}})
	x, ok = impl.TableBeside([][]int{{3}, {4}}, [][]int{{1, 2}})
	wantTable(t, "TableBeside", x, ok, [][]int{{3, 0, 0}, {4, 0, 0}, {0, 1, 2}})
	x, ok = impl.TableBeside([][]int{{30}}, [][]int{{-30}})
	wantTable(t, "TableBeside", x, ok, [][]int{{30, 0}, {0, -30}})
	for _, c := range []struct {
		a, b, c, d int
		ok         bool
	}{{3, 3, 3, 3, true}, {5, 1, 1, 5, true}, {5, 5, 1, 1, true}, {6, 1, 1, 1, false}, {1, 6, 1, 1, false}, {1, 1, 6, 1, false},
		{1, 1, 1, 6, false}, {3, 3, 4, 3, false}, {3, 3, 3, 4, false}, {4, 3, 3, 3, false}, {3, 4, 3, 3, false}, {6, 6, 6, 6, false}} {
		u, w := filled(c.a, c.b, 1), filled(c.c, c.d, 2)
		x, ok := impl.TableBeside(u, w)
		if ok != c.ok || ok && !same(x, besideOf(u, w)) || !ok && len(x) != 0 {
			t.Errorf("TableBeside(%v, %v) returned %v, %v", u, w, x, ok)
		}
	}
	for _, u := range noTables() {
		for _, w := range [][][]int{{{1}}, {{0, 0}}, filled(6, 6, 0), u} {
			x, ok := impl.TableBeside(u, w)
			wantFailure(t, "TableBeside of no table", x, ok)
			x, ok = impl.TableBeside(w, u)
			wantFailure(t, "TableBeside with no table", x, ok)
		}
	}
}

// P8.

func TestPromise8(t *testing.T) {
	for _, u := range samples() {
		for i := range u {
			for k := range u {
				want := loose(u)
				want[i], want[k] = want[k], want[i]
				x, ok := impl.TableSwap(u, i, k)
				wantTable(t, call("TableSwap", u, i, k), x, ok, want)
				y, ok := impl.TableSwap(x, i, k)
				wantTable(t, call("TableSwap", x, i, k), y, ok, u)
			}
		}
		for _, i := range append([]int{len(u), len(u) + 1}, sizes...) {
			for _, k := range []int{0, len(u) - 1, i} {
				if i >= 0 && i < len(u) {
					continue
				}
				x, ok := impl.TableSwap(u, i, k)
				wantFailure(t, call("TableSwap", u, i, k), x, ok)
				x, ok = impl.TableSwap(u, k, i)
				wantFailure(t, call("TableSwap", u, k, i), x, ok)
			}
		}
	}
	for _, u := range noTables() {
		for _, i := range []int{0, 1, -1, math.MaxInt} {
			x, ok := impl.TableSwap(u, i, 0)
			wantFailure(t, "TableSwap of no table", x, ok)
		}
	}
}

func TestTableSwapExamples(t *testing.T) {
	u := [][]int{{1, 2}, {3, 4}, {5, 6}}
	x, ok := impl.TableSwap(u, 0, 2)
	wantTable(t, "TableSwap", x, ok, [][]int{{5, 6}, {3, 4}, {1, 2}})
	x, ok = impl.TableSwap(u, 1, 1)
	wantTable(t, "TableSwap", x, ok, u)
	x, ok = impl.TableSwap([][]int{{1, 2, 3}}, 0, 0)
	wantTable(t, "TableSwap", x, ok, [][]int{{1, 2, 3}})
}

// P9.

func addedOf(u [][]int, from, to, k int) [][]int {
	x := loose(u)
	for j := range x[to] {
		x[to][j] += k * u[from][j]
	}
	return x
}

func TestPromise9(t *testing.T) {
	for _, u := range samples() {
		for from := range u {
			for to := range u {
				for _, k := range []int{-30, -7, -3, -2, -1, 0, 1, 2, 3, 4, 15, 30} {
					x, ok := impl.TableAdd(u, from, to, k)
					if from == to {
						wantFailure(t, call("TableAdd", u, from, to, k), x, ok)
						continue
					}
					wantIf(t, call("TableAdd", u, from, to, k), x, ok, addedOf(u, from, to, k))
					if ok {
						y, ok := impl.TableAdd(x, from, to, -k)
						wantTable(t, call("TableAdd", x, from, to, -k), y, ok, u)
					}
				}
			}
		}
	}
}

func TestTableAddLimits(t *testing.T) {
	for _, c := range []struct {
		from, to, k int
		want        [][]int
	}{
		{0, 1, 30, [][]int{{1, 0}, {30, 30}}}, {0, 1, 31, nil}, {0, 1, -30, [][]int{{1, 0}, {-30, 30}}}, {0, 1, -31, nil},
		{1, 0, 1, [][]int{{1, 30}, {0, 30}}}, {1, 0, 2, nil}, {1, 0, -1, [][]int{{1, -30}, {0, 30}}}, {1, 0, -2, nil}, {1, 0, 0, [][]int{{1, 0}, {0, 30}}},
	} {
		u := [][]int{{1, 0}, {0, 30}}
		x, ok := impl.TableAdd(u, c.from, c.to, c.k)
		if c.want == nil {
			wantFailure(t, call("TableAdd", u, c.from, c.to, c.k), x, ok)
		} else {
			wantTable(t, call("TableAdd", u, c.from, c.to, c.k), x, ok, c.want)
		}
	}
	x, ok := impl.TableAdd([][]int{{30}, {-30}}, 0, 1, 2)
	wantTable(t, "TableAdd up to the limit", x, ok, [][]int{{30}, {30}})
	x, ok = impl.TableAdd([][]int{{30}, {-30}}, 0, 1, 3)
	wantFailure(t, "TableAdd beyond the limit", x, ok)
	x, ok = impl.TableAdd([][]int{{30}, {-29}}, 0, 1, 2)
	wantFailure(t, "TableAdd just beyond the limit", x, ok)
	x, ok = impl.TableAdd([][]int{{30}, {30}}, 0, 1, -2)
	wantTable(t, "TableAdd down to the limit", x, ok, [][]int{{30}, {-30}})
	x, ok = impl.TableAdd([][]int{{30}, {29}}, 0, 1, -2)
	wantFailure(t, "TableAdd just below the limit", x, ok)
}

func TestTableAddOthers(t *testing.T) {
	for _, u := range [][][]int{filled(1, 1, 0), filled(1, 6, 0), filled(6, 1, 0), filled(3, 4, 0), filled(6, 6, 0)} {
		for i := range u {
			x, ok := impl.TableAdd(u, i, i, 0)
			wantFailure(t, call("TableAdd", u, i, i, 0), x, ok)
		}
		for _, i := range append([]int{len(u), len(u) + 1}, sizes...) {
			if i >= 0 && i < len(u) {
				continue
			}
			for _, k := range []int{0, 1, 30} {
				x, ok := impl.TableAdd(u, i, 0, k)
				wantFailure(t, call("TableAdd", u, i, 0, k), x, ok)
				x, ok = impl.TableAdd(u, 0, i, k)
				wantFailure(t, call("TableAdd", u, 0, i, k), x, ok)
				x, ok = impl.TableAdd(u, i, i, k)
				wantFailure(t, call("TableAdd", u, i, i, k), x, ok)
			}
		}
		for _, k := range sizes {
			if k < -30 || k > 30 {
				x, ok := impl.TableAdd(u, 0, len(u)-1, k)
				wantFailure(t, call("TableAdd", u, 0, len(u)-1, k), x, ok)
			}
		}
	}
	for _, u := range noTables() {
		for _, k := range []int{0, 1, -1} {
			x, ok := impl.TableAdd(u, 0, 1, k)
			wantFailure(t, "TableAdd of no table", x, ok)
			x, ok = impl.TableAdd(u, 1, 0, k)
			wantFailure(t, "TableAdd of no table", x, ok)
		}
	}
}

// Memory: for all functions that return tables.

func TestTableMemory(t *testing.T) {
	for _, height := range sides {
		for _, width := range sides {
			u, w := sample(height, width, 3, 1), sample(height, width, 3, 2)
			part := func(rows, columns int) func([][][]int) ([][]int, bool) {
				return func(a [][][]int) ([][]int, bool) { return impl.TablePart(a[0], rows, columns) }
			}
			checkMemory(t, "TableSum", [][][]int{u, w}, func(a [][][]int) ([][]int, bool) { return impl.TableSum(a[0], a[1]) })
			checkMemory(t, "TableSum of one table", [][][]int{u}, func(a [][][]int) ([][]int, bool) { return impl.TableSum(a[0], a[0]) })
			for _, k := range []int{-1, 0, 1, 2} {
				checkMemory(t, "TableTimes", [][][]int{u}, func(a [][][]int) ([][]int, bool) { return impl.TableTimes(a[0], k) })
			}
			checkMemory(t, "TableTurn", [][][]int{u}, func(a [][][]int) ([][]int, bool) { return impl.TableTurn(a[0]) })
			checkMemory(t, "TablePart of all", [][][]int{u}, part(1<<height-1, 1<<width-1))
			checkMemory(t, "TablePart of a row", [][][]int{u}, part(1<<(height-1), 1<<width-1))
			checkMemory(t, "TablePart of a column", [][][]int{u}, part(1<<height-1, 1))
			unit := sample(width, width, 0, 0)
			for i := range unit {
				unit[i][i] = 1
			}
			checkMemory(t, "TableMake", [][][]int{u, unit}, func(a [][][]int) ([][]int, bool) { return impl.TableMake(a[0], a[1]) })
			for i := range height {
				checkMemory(t, "TableSwap", [][][]int{u}, func(a [][][]int) ([][]int, bool) { return impl.TableSwap(a[0], 0, i) })
				if i > 0 {
					checkMemory(t, "TableAdd", [][][]int{u}, func(a [][][]int) ([][]int, bool) { return impl.TableAdd(a[0], 0, i, 1) })
					checkMemory(t, "TableAdd of 0", [][][]int{u}, func(a [][][]int) ([][]int, bool) { return impl.TableAdd(a[0], i, 0, 0) })
				}
			}
		}
		checkMemory(t, "TableUnit", nil, func([][][]int) ([][]int, bool) { return impl.TableUnit(height) })
	}
	for _, c := range [][2][][]int{{filled(1, 1, 1), filled(1, 1, 2)}, {filled(2, 3, 1), filled(3, 2, 2)}, {filled(5, 5, 1), filled(1, 1, 2)}} {
		checkMemory(t, "TableBeside", [][][]int{c[0], c[1]}, func(a [][][]int) ([][]int, bool) { return impl.TableBeside(a[0], a[1]) })
		checkMemory(t, "TableBeside of one table", [][][]int{c[0][:1]}, func(a [][][]int) ([][]int, bool) {
			return impl.TableBeside([][]int{a[0][0][:1]}, [][]int{a[0][0][:1]})
		})
	}
}

// TestTableSharedRows uses one row as several rows of an argument: the result must not keep that.
func TestTableSharedRows(t *testing.T) {
	row := []int{1, 2, 3}
	shared := [][]int{row, row, row}
	for name, function := range map[string]func() ([][]int, bool){
		"TableSum":   func() ([][]int, bool) { return impl.TableSum(shared, shared) },
		"TableTimes": func() ([][]int, bool) { return impl.TableTimes(shared, 1) },
		"TableMake":  func() ([][]int, bool) { return impl.TableMake(shared, filled(3, 3, 1)) },
		"TableTurn":  func() ([][]int, bool) { return impl.TableTurn(shared) },
		"TablePart":  func() ([][]int, bool) { return impl.TablePart(shared, 7, 7) },
		"TableSwap":  func() ([][]int, bool) { return impl.TableSwap(shared, 0, 1) },
		"TableAdd":   func() ([][]int, bool) { return impl.TableAdd(shared, 0, 1, 1) },
	} {
		x, ok := function()
		if !ok {
			t.Fatalf("%s failed", name)
		}
		last := append([]int{}, x[2]...)
		scribble(x[0])
		scribble(x[1])
		if !same([][]int{last}, x[2:]) || !same([][]int{{1, 2, 3}}, [][]int{row}) {
			t.Errorf("%s keeps memory that rows share", name)
		}
	}
}

// TestTableComparisonsKeepArguments calls the functions that return no table.
func TestTableComparisonsKeepArguments(t *testing.T) {
	for _, u := range append(samples(), filled(7, 7, 1), [][]int{}, [][]int{{1}, {}}) {
		a, b := loose(u), loose(u)
		before := wholeOf(a)
		impl.TableIn(a)
		impl.TableSame(a, b)
		if !same(before, wholeOf(a)) || !same(before, wholeOf(b)) {
			t.Errorf("the argument %v has changed", u)
		}
	}
}

// TestTableFailuresKeepArguments checks that a function that finds its result beyond the limits has not changed its argument on the way.
func TestTableFailuresKeepArguments(t *testing.T) {
	u, w := loose(filled(3, 3, 30)), loose(filled(4, 4, 30))
	before, beforeW := wholeOf(u), wholeOf(w)
	for name, function := range map[string]func() ([][]int, bool){
		"TableSum":    func() ([][]int, bool) { return impl.TableSum(u, u) },
		"TableTimes":  func() ([][]int, bool) { return impl.TableTimes(u, 2) },
		"TableMake":   func() ([][]int, bool) { return impl.TableMake(u, u) },
		"TablePart":   func() ([][]int, bool) { return impl.TablePart(u, 8, 1) },
		"TableBeside": func() ([][]int, bool) { return impl.TableBeside(u, w) },
		"TableSwap":   func() ([][]int, bool) { return impl.TableSwap(u, 0, 3) },
		"TableAdd":    func() ([][]int, bool) { return impl.TableAdd(u, 0, 1, 1) },
	} {
		x, ok := function()
		wantFailure(t, name, x, ok)
		if !same(before, wholeOf(u)) || !same(beforeW, wholeOf(w)) {
			t.Errorf("%s has changed its argument", name)
		}
	}
}
