package tests

import (
	"math"
	"math/big"
	"reflect"
	"testing"

	"loop.example/tableminors/impl"
)

// roads are the functions that find the value of a square, by their names; ValueCondense does not for all.
var roads = map[string]func([][]int) (int, bool){
	"ValueOrders": impl.ValueOrders, "ValueRows": impl.ValueRows, "ValuePivots": impl.ValuePivots, "ValueCondense": impl.ValueCondense,
}

// reduced returns the value and the rank of a table, by fractions; its value is told by squares only, 1 by no rows.
func reduced(u [][]int) (int, int) {
	rows := [][]*big.Rat{}
	for _, row := range u {
		r := []*big.Rat{}
		for _, entry := range row {
			r = append(r, big.NewRat(int64(entry), 1))
		}
		rows = append(rows, r)
	}
	value, rank := big.NewRat(1, 1), 0
	for k := 0; len(rows) > 0 && k < len(rows[0]); k++ {
		i := rank
		for i < len(rows) && rows[i][k].Sign() == 0 {
			i++
		}
		if i == len(rows) {
			value.SetInt64(0)
			continue
		}
		if i != rank {
			rows[i], rows[rank] = rows[rank], rows[i]
			value.Neg(value)
		}
		value.Mul(value, rows[rank][k])
		for j := rank + 1; j < len(rows); j++ {
			f := new(big.Rat).Quo(rows[j][k], rows[rank][k])
			for c := k; c < len(rows[j]); c++ {
				rows[j][c].Sub(rows[j][c], new(big.Rat).Mul(f, rows[rank][c]))
			}
		}
		rank++
	}
	return int(value.Num().Int64()), rank
}

func valueOf(u [][]int) int {
	v, _ := reduced(u)
	return v
}

func rankOf(u [][]int) int {
	_, r := reduced(u)
	return r
}

// condenses tells whether no number in the middle is 0: these are the minors of rows and columns beside each other,
// none of them the first or last one.
func condenses(u [][]int) bool {
	for size := 1; size <= len(u)-2; size++ {
		for i := 1; i+size < len(u); i++ {
			for k := 1; k+size < len(u); k++ {
				if valueOf(partOf(u, (1<<size-1)<<i, (1<<size-1)<<k)) == 0 {
					return false
				}
			}
		}
	}
	return true
}

// without leaves out a row and a column.
func without(u [][]int, row, column int) [][]int {
	return partOf(u, (1<<len(u)-1)&^(1<<row), (1<<len(u[0])-1)&^(1<<column))
}

func unit(n int) [][]int {
	u := filled(n, n, 0)
	for i := range u {
		u[i][i] = 1
	}
	return u
}

// lowRank returns a table of at most some rank, its entries within the limits.
func lowRank(height, width, rank, seed int) [][]int {
	return productOf(sample(height, rank, 2, seed), sample(rank, width, 2, seed+40))
}

// squares returns squares of all sides: mixed ones, those of small rank, those with 0 where rows are to be brought up,
// and those whose values are as great as values may be.
func squares() [][][]int {
	var all [][][]int
	for _, u := range samples() {
		if len(u) == len(u[0]) {
			all = append(all, u)
		}
	}
	for entry := -30; entry <= 30; entry++ {
		all = append(all, [][]int{{entry}})
	}
	for _, n := range sides {
		back := filled(n, n, 0)
		high, low := filled(n, n, 30), filled(n, n, 30)
		for i := range n {
			back[i][n-1-i] = i - 7
			for k := range n {
				if i < k {
					high[i][k] = -30
				} else {
					low[i][k] = -30
				}
			}
		}
		all = append(all, unit(n), back, high, low)
		for seed := range 12 {
			mixed := sample(n, n, 30, seed+200)
			for i := range min(seed, n) {
				mixed[i][0] = 0
				mixed[i][n-1-i] = 0
			}
			all = append(all, mixed, sample(n, n, 1, seed+300))
		}
		for rank := 1; rank < n; rank++ {
			all = append(all, lowRank(n, n, rank, n), lowRank(n, n, rank, n+10))
		}
	}
	return append(all, greatSquare(), [][]int{{0, 1}, {1, 0}}, [][]int{{0, 0, 1}, {0, 1, 0}, {1, 0, 0}}, [][]int{{0, 1, 0}, {0, 0, 1}, {1, 0, 0}})
}

// greatSquare has the greatest value that a square of 6 rows may have, 160 times 30 to the power of 6.
func greatSquare() [][]int {
	u := filled(6, 6, 30)
	for i := range 6 {
		u[i][i] = -30
		for k := range 3 {
			if i >= 3 {
				u[i][k] = -30
			}
		}
	}
	return u
}

// allSquares calls a function for all squares of some rows with entries from -1 to 1.
func allSquares(n int, function func(u [][]int)) {
	count := 1
	for range n * n {
		count *= 3
	}
	for number := range count {
		u := filled(n, n, 0)
		for rest, place := number, 0; place < n*n; place++ {
			u[place/n][place%n] = rest%3 - 1
			rest /= 3
		}
		function(u)
	}
}

// noSquares returns tables that are no squares, and what is no table.
func noSquares() [][][]int {
	all := noTables()
	for _, u := range samples() {
		if len(u) != len(u[0]) {
			all = append(all, u)
		}
	}
	return all
}

func wantValue(t *testing.T, what string, v int, ok bool, want int) {
	t.Helper()
	if !ok || v != want {
		t.Errorf("%s returned %d, %v; want %d, true", what, v, ok, want)
	}
}

func wantNoValue(t *testing.T, what string, v int, ok bool) {
	t.Helper()
	if ok || v != 0 {
		t.Errorf("%s returned %d, %v; want a failure", what, v, ok)
	}
}

// example is a table with the number that a function has to return for it.
type example struct {
	u    [][]int
	want int
}

// checkExamples calls a function for examples, and for others for which it has to fail.
func checkExamples(t *testing.T, name string, function func([][]int) (int, bool), examples []example, others [][][]int) {
	t.Helper()
	for _, e := range examples {
		v, ok := function(e.u)
		wantValue(t, call(name, e.u), v, ok, e.want)
	}
	for _, u := range others {
		v, ok := function(u)
		wantNoValue(t, call(name, "of", len(u), "rows"), v, ok)
	}
}

// value calls ValueOrders for a square.
func value(t *testing.T, u [][]int) int {
	t.Helper()
	v, ok := impl.ValueOrders(u)
	if !ok {
		t.Errorf("ValueOrders(%v) failed", u)
	}
	return v
}

func rank(t *testing.T, u [][]int) int {
	t.Helper()
	r, ok := impl.ValueRank(u)
	if !ok {
		t.Errorf("ValueRank(%v) failed", u)
	}
	return r
}

// The rules for all four roads.

func TestRoads(t *testing.T) {
	others := append(noSquares(), unit(7))
	for _, n := range sides {
		for _, entry := range []int{31, -31, math.MaxInt, math.MinInt} {
			u := unit(n)
			u[n-1][n-1] = entry
			others = append(others, u)
		}
	}
	for name, road := range roads {
		checkExamples(t, name, road, []example{
			{[][]int{{7}}, 7}, {[][]int{{-30}}, -30}, {[][]int{{0}}, 0}, {[][]int{{1, 2}, {3, 4}}, -2}, {[][]int{{0, 1}, {1, 0}}, -1},
			{[][]int{{0, 0}, {0, 0}}, 0}, {[][]int{{30, -30}, {30, 30}}, 1800}, {[][]int{{2, 1, 1}, {1, 3, 1}, {1, 1, 4}}, 17},
			{[][]int{{1, 2, 3}, {4, 5, 6}, {7, 8, 9}}, 0}, {[][]int{{0, 1, 0}, {0, 2, 1}, {1, 0, 0}}, 1}, {[][]int{{1, 2, 3}, {0, 4, 5}, {0, 0, 6}}, 24},
			{[][]int{{1, 1, 1, 1}, {1, 2, 4, 8}, {1, 3, 9, 27}, {1, -1, 1, -1}}, -48},
		}, others)
		if name != "ValueCondense" {
			checkExamples(t, name, road, []example{{greatSquare(), 160 * 729000000}}, nil)
		}
	}
}

// P10 and P11, with this chapter.

func TestPromise10Value(t *testing.T) {
	for _, n := range sides {
		u, ok := impl.TableUnit(n)
		if !ok || value(t, u) != 1 {
			t.Errorf("the unit square %v has the value %d", u, value(t, u))
		}
	}
}

func TestPromise11Rank(t *testing.T) {
	all := samples()
	for i, u := range all {
		for _, w := range [][][]int{loose(u), all[(i+1)%len(all)]} {
			if impl.TableSame(u, w) && (!impl.TableSame(w, u) || rank(t, u) != rank(t, w)) {
				t.Errorf("%v and %v are the same, but have the ranks %d and %d", u, w, rank(t, u), rank(t, w))
			}
		}
	}
}

// P12 and P13, and ValueOrders.

func TestPromise12And13(t *testing.T) {
	check := func(u [][]int) {
		want := valueOf(u)
		for _, name := range []string{"ValueOrders", "ValueRows", "ValuePivots"} {
			v, ok := roads[name](u)
			wantValue(t, call(name, u), v, ok, want)
		}
	}
	for _, u := range squares() {
		check(u)
	}
	for n := 1; n <= 3; n++ {
		allSquares(n, check)
	}
}

// TestRoadsBringUp has squares in which a row is brought up from each place.
func TestRoadsBringUp(t *testing.T) {
	for _, n := range sides {
		for from := range n {
			for to := range n {
				u := unit(n)
				u[from], u[to] = u[to], u[from]
				want := -1
				if from == to {
					want = 1
				}
				for _, name := range []string{"ValueOrders", "ValueRows", "ValuePivots"} {
					v, ok := roads[name](u)
					wantValue(t, call(name, u), v, ok, want)
				}
			}
		}
	}
}

// P14.

func TestPromise14(t *testing.T) {
	for _, u := range squares() {
		v, ok := impl.ValuePivots(u)
		w, ok1 := impl.ValuePivots(turned(u))
		if !ok || !ok1 || v != w {
			t.Errorf("ValuePivots(%v) is %d, and turned %d", u, v, w)
		}
		if len(u) == 1 {
			continue
		}
		swapped, ok := impl.TableSwap(u, 0, 1)
		w, ok1 = impl.ValuePivots(swapped)
		if !ok || !ok1 || v != -w {
			t.Errorf("ValuePivots(%v) is %d, and swapped %d", u, v, w)
		}
	}
}

// P15.

func TestPromise15(t *testing.T) {
	succeeded, failed := 0, 0
	check := func(u [][]int) {
		v, ok := impl.ValueCondense(u)
		if condenses(u) {
			wantValue(t, call("ValueCondense", u), v, ok, value(t, u))
			succeeded++
		} else {
			wantNoValue(t, call("ValueCondense", u), v, ok)
			failed++
		}
	}
	for _, u := range squares() {
		check(u)
	}
	for n := 1; n <= 3; n++ {
		allSquares(n, check)
	}
	for n := 4; n <= 6; n++ {
		for seed := range 300 {
			check(sample(n, n, 1+seed%3, seed+1000))
			check(sample(n, n, 1+seed%30, seed+2000))
		}
	}
	if succeeded < 1000 || failed < 1000 {
		t.Errorf("ValueCondense succeeded %d times and failed %d times", succeeded, failed)
	}
}

func TestValueCondenseMiddle(t *testing.T) {
	checkExamples(t, "ValueCondense", impl.ValueCondense, []example{
		{[][]int{{0}}, 0}, {[][]int{{5}}, 5}, {[][]int{{0, 0}, {0, 0}}, 0}, {[][]int{{0, 2}, {3, 0}}, -6},
		{[][]int{{0, 0, 0}, {0, 1, 0}, {0, 0, 0}}, 0}, {[][]int{{0, 0, 1}, {0, 1, 0}, {1, 0, 0}}, -1},
		{[][]int{{1, 1, 1}, {1, 1, 1}, {1, 1, 1}}, 0},
		{[][]int{{0, 0, 0, 1}, {0, 1, 1, 0}, {0, 1, 2, 0}, {1, 0, 0, 0}}, -1},
	}, [][][]int{
		{{1, 2, 3}, {4, 0, 6}, {7, 8, 9}},
		{{0, 0, 0}, {0, 0, 0}, {0, 0, 0}},
		{{1, 0, 0, 0}, {0, 1, 0, 0}, {0, 0, 1, 0}, {0, 0, 0, 1}},
		{{5, 1, 2, 3}, {1, 1, 1, 2}, {4, 1, 1, 7}, {2, 3, 1, 9}},
		{{5, 1, 2, 3}, {1, 1, 2, 2}, {4, 3, 0, 7}, {2, 3, 1, 9}},
	})
}

// P16.

func TestPromise16(t *testing.T) {
	for _, height := range sides {
		for _, width := range sides {
			u := sample(height, width, []int{1, 4, 30}[(height+width)%3], 11)
			for rows := range 1 << height {
				for columns := range 1 << width {
					v, ok := impl.ValueMinor(u, rows, columns)
					what := call("ValueMinor", u, rows, columns)
					switch {
					case members(rows) != members(columns):
						wantNoValue(t, what, v, ok)
					case rows == 0:
						wantValue(t, what, v, ok, 1)
					default:
						part, made := impl.TablePart(u, rows, columns)
						if !made || value(t, part) != v {
							t.Errorf("%s is not that of %v", what, part)
						}
						wantValue(t, what, v, ok, valueOf(partOf(u, rows, columns)))
					}
				}
			}
		}
	}
}

func TestValueMinorOtherSets(t *testing.T) {
	for _, u := range [][][]int{{{5}}, {{1, 2, 3}}, {{1}, {2}}, {{1, 2, 3}, {4, 5, 6}}, sample(6, 6, 30, 3), sample(5, 6, 30, 3), sample(6, 5, 30, 3)} {
		height, width := len(u), len(u[0])
		for _, set := range append([]int{1 << height, 1<<height + 1, 3 << height, 1 << width, 1<<width + 1, 3 << width, -3, -8, 1<<62 + 1, math.MinInt + 3}, sizes...) {
			if set < 0 || set >= 1<<height {
				for _, columns := range []int{0, 1, 1<<width - 1, set} {
					v, ok := impl.ValueMinor(u, set, columns)
					wantNoValue(t, call("ValueMinor", u, set, columns), v, ok)
				}
			}
			if set < 0 || set >= 1<<width {
				for _, rows := range []int{0, 1, 1<<height - 1, set} {
					v, ok := impl.ValueMinor(u, rows, set)
					wantNoValue(t, call("ValueMinor", u, rows, set), v, ok)
				}
			}
		}
	}
}

func TestValueMinorExamples(t *testing.T) {
	u := [][]int{{1, 2, 3}, {4, 5, 6}}
	for _, c := range [][3]int{{0, 0, 1}, {1, 1, 1}, {2, 4, 6}, {3, 3, -3}, {3, 5, -6}, {3, 6, -3}} {
		v, ok := impl.ValueMinor(u, c[0], c[1])
		wantValue(t, call("ValueMinor", u, c[0], c[1]), v, ok, c[2])
	}
	for _, c := range [][2]int{{0, 1}, {1, 0}, {1, 3}, {3, 1}, {3, 7}, {3, 4}, {7, 7}, {4, 1}, {0, 8}, {4, 0}, {-1, -1}, {-1, 1}, {1, -1}, {0, -1}} {
		v, ok := impl.ValueMinor(u, c[0], c[1])
		wantNoValue(t, call("ValueMinor", u, c[0], c[1]), v, ok)
	}
	for _, u := range noTables() {
		for _, set := range []int{0, 1, 2, 3, -1, math.MaxInt, math.MinInt} {
			v, ok := impl.ValueMinor(u, set, set)
			wantNoValue(t, "ValueMinor of no table", v, ok)
			v, ok = impl.ValueMinor(u, 0, 0)
			wantNoValue(t, "ValueMinor of no table", v, ok)
		}
	}
}

// P17.

func othersOf(u [][]int) [][]int {
	x := filled(len(u), len(u), 0)
	for i := range x {
		for k := range x[i] {
			x[i][k] = valueOf(without(u, k, i))
			if (i+k)%2 == 1 {
				x[i][k] = -x[i][k]
			}
		}
	}
	return x
}

func TestPromise17(t *testing.T) {
	check := func(u [][]int) {
		x, ok := impl.ValueOther(u)
		wantTable(t, call("ValueOther", u), x, ok, othersOf(u))
		want := timesOf(unit(len(u)), value(t, u))
		if ok && (!same(productOf(u, x), want) || !same(productOf(x, u), want)) {
			t.Errorf("ValueOther(%v) is %v; the products are %v and %v", u, x, productOf(u, x), productOf(x, u))
		}
	}
	for _, u := range squares() {
		check(u)
	}
	for n := 1; n <= 2; n++ {
		allSquares(n, check)
	}
}

func TestValueOtherExamples(t *testing.T) {
	for _, c := range [][2][][]int{
		{{{5}}, {{1}}}, {{{0}}, {{1}}}, {{{-30}}, {{1}}}, {{{1, 2}, {3, 4}}, {{4, -2}, {-3, 1}}}, {{{0, 0}, {0, 0}}, {{0, 0}, {0, 0}}},
		{{{1, 2, 3}, {0, 1, 4}, {5, 6, 0}}, {{-24, 18, 5}, {20, -15, -4}, {-5, 4, 1}}},
		{{{1, 2, 3}, {4, 5, 6}, {7, 8, 9}}, {{-3, 6, -3}, {6, -12, 6}, {-3, 6, -3}}},
		{timesOf(unit(3), 30), timesOf(unit(3), 900)},
		{timesOf(unit(6), -30), timesOf(unit(6), -24300000)},
	} {
		x, ok := impl.ValueOther(c[0])
		wantTable(t, call("ValueOther", c[0]), x, ok, c[1])
	}
	for _, u := range noSquares() {
		x, ok := impl.ValueOther(u)
		wantFailure(t, "ValueOther of no square", x, ok)
	}
}

// P18.

func TestPromise18(t *testing.T) {
	check := func(u [][]int) {
		r, ok := impl.ValueRank(u)
		wantValue(t, call("ValueRank", u), r, ok, rankOf(u))
		if r != rank(t, turned(u)) {
			t.Errorf("ValueRank(%v) is %d, and turned %d", u, r, rank(t, turned(u)))
		}
		if r < 0 || r > len(u) || r > len(u[0]) {
			t.Errorf("ValueRank(%v) is %d", u, r)
		}
		if len(u) == len(u[0]) && (r == len(u)) != (value(t, u) != 0) {
			t.Errorf("ValueRank(%v) is %d, and the value %d", u, r, value(t, u))
		}
	}
	for _, u := range append(samples(), squares()...) {
		check(u)
	}
	for _, height := range sides {
		for _, width := range sides {
			for rank := 1; rank <= min(height, width); rank++ {
				check(lowRank(height, width, rank, 70))
			}
			u := filled(height, width, 0)
			check(u)
			u[height-1][width-1] = -1
			check(u)
		}
	}
	for n := 1; n <= 3; n++ {
		allSquares(n, check)
	}
}

func TestValueRankExamples(t *testing.T) {
	checkExamples(t, "ValueRank", impl.ValueRank, []example{{[][]int{{0}}, 0}, {[][]int{{-1}}, 1}, {filled(6, 6, 0), 0}, {filled(1, 6, 0), 0}, {filled(6, 1, 0), 0}, {filled(6, 6, 30), 1},
		{[][]int{{1, 2, 3}}, 1}, {[][]int{{0, 0, 3}}, 1}, {[][]int{{0}, {0}, {3}}, 1}, {[][]int{{1, 2, 3}, {4, 5, 6}}, 2}, {[][]int{{1, 2, 3}, {2, 4, 6}}, 1},
		{[][]int{{1, 2, 3}, {4, 5, 6}, {7, 8, 9}}, 2}, {[][]int{{0, 1, 0}, {0, 0, 1}, {0, 0, 0}}, 2}, {greatSquare(), 6}, {unit(6)[:5], 5}}, noTables())
}

// P19 and P20.

func TestPromise19And20(t *testing.T) {
	made, ofSquares := 0, 0
	check := func(u, w [][]int) {
		x, ok := impl.TableMake(u, w)
		if !ok {
			return
		}
		made++
		r, first, second := rank(t, x), rank(t, u), rank(t, w)
		if r > first || r > second || r < first+second-len(w) {
			t.Errorf("the rank of the product of %v and %v is %d, theirs are %d and %d", u, w, r, first, second)
		}
		if len(u) == len(w) && len(w) == len(w[0]) {
			ofSquares++
			if value(t, x) != value(t, u)*value(t, w) {
				t.Errorf("the value of the product of %v and %v is %d, theirs are %d and %d", u, w, value(t, x), value(t, u), value(t, w))
			}
		}
	}
	for _, height := range sides {
		for _, middle := range sides {
			for _, width := range sides {
				for seed := range 6 {
					check(sample(height, middle, 1+seed%2, seed), sample(middle, width, 1+seed/2, seed+30))
					check(lowRank(height, middle, 1+seed%middle, seed), sample(middle, width, 1, seed))
				}
			}
		}
		for _, u := range squares() {
			if len(u) == height {
				check(u, unit(height))
				check(u, u)
				check(sample(height, height, 1, 9), u)
			}
		}
	}
	if made < 1000 || ofSquares < 200 {
		t.Errorf("only %d products, %d of them of squares", made, ofSquares)
	}
}

// P21.

func TestPromise21(t *testing.T) {
	pairs := 0
	all := squares()
	for i, u := range all {
		for k, w := range all {
			if (i+k)%7 != 0 && len(u) > 1 {
				continue
			}
			x, ok := impl.TableBeside(u, w)
			if ok != (len(u)+len(w) <= 6) {
				t.Errorf("TableBeside(%v, %v) returned %v", u, w, ok)
			}
			if !ok {
				continue
			}
			pairs++
			if value(t, x) != value(t, u)*value(t, w) {
				t.Errorf("%v has the value %d, its squares %d and %d", x, value(t, x), value(t, u), value(t, w))
			}
			if rank(t, x) != rank(t, u)+rank(t, w) {
				t.Errorf("%v has the rank %d, its squares %d and %d", x, rank(t, x), rank(t, u), rank(t, w))
			}
		}
	}
	if pairs < 1000 {
		t.Errorf("only %d pairs", pairs)
	}
}

// P22.

func TestPromise22(t *testing.T) {
	added := 0
	for _, u := range squares() {
		for from := range u {
			for to := range u {
				for _, k := range []int{-30, -2, 1, 3} {
					x, ok := impl.TableAdd(u, from, to, k)
					if !ok {
						continue
					}
					added++
					for _, name := range []string{"ValueOrders", "ValueRows", "ValuePivots"} {
						v, ok := roads[name](x)
						wantValue(t, call(name, x), v, ok, value(t, u))
					}
				}
			}
		}
	}
	if added < 1000 {
		t.Errorf("only %d rows added", added)
	}
}

// P23.

func replacedValues(u [][]int, b []int) []int {
	x := []int{}
	for k := range u {
		w := loose(u)
		for i := range w {
			w[i][k] = b[i]
		}
		x = append(x, valueOf(w))
	}
	return x
}

func TestPromise23(t *testing.T) {
	for i, u := range squares() {
		n := len(u)
		for _, b := range [][]int{sample(1, n, 30, i)[0], sample(1, n, 3, i)[0], filled(1, n, 0)[0], filled(1, n, 30)[0], filled(1, n, -30)[0]} {
			v, x, ok := impl.ValueSolve(u, b)
			if valueOf(u) == 0 {
				wantNoSolution(t, call("ValueSolve", u, b), v, x, ok)
				continue
			}
			wantValue(t, call("ValueSolve", u, b), v, ok, valueOf(u))
			wantTable(t, call("ValueSolve", u, b), [][]int{x}, ok, [][]int{replacedValues(u, b)})
			for i, row := range u {
				sum := 0
				for k := range row {
					sum += row[k] * x[k]
				}
				if sum != v*b[i] {
					t.Errorf("ValueSolve(%v, %v) returned %d and %v: row %d makes %d", u, b, v, x, i, sum)
				}
			}
		}
	}
}

func wantNoSolution(t *testing.T, what string, v int, x []int, ok bool) {
	t.Helper()
	if ok || v != 0 || len(x) != 0 {
		t.Errorf("%s returned %d, %v, %v; want a failure", what, v, x, ok)
	}
}

func TestValueSolveExamples(t *testing.T) {
	for _, c := range []struct {
		u    [][]int
		b    []int
		want int
		list []int
	}{
		{[][]int{{1, 2}, {3, 4}}, []int{5, 6}, -2, []int{8, -9}},
		{[][]int{{7}}, []int{-3}, 7, []int{-3}}, {[][]int{{-30}}, []int{30}, -30, []int{30}}, {[][]int{{-1}}, []int{0}, -1, []int{0}},
		{[][]int{{0, 1}, {1, 0}}, []int{5, 6}, -1, []int{-6, -5}}, {unit(3), []int{-30, 0, 30}, 1, []int{-30, 0, 30}},
	} {
		v, x, ok := impl.ValueSolve(c.u, c.b)
		wantValue(t, call("ValueSolve", c.u, c.b), v, ok, c.want)
		wantTable(t, call("ValueSolve", c.u, c.b), [][]int{x}, ok, [][]int{c.list})
	}
}

func TestValueSolveOthers(t *testing.T) {
	for _, n := range sides {
		for _, length := range []int{0, 1, 2, 3, 4, 5, 6, 7, 8, 100, 100000} {
			if length != n {
				v, x, ok := impl.ValueSolve(unit(n), make([]int, length))
				wantNoSolution(t, call("ValueSolve", n, length), v, x, ok)
			}
		}
		v, x, ok := impl.ValueSolve(unit(n), nil)
		wantNoSolution(t, call("ValueSolve", n, "nil"), v, x, ok)
		for i := range n {
			for _, number := range []int{31, -31, 1000, math.MaxInt, math.MinInt, math.MinInt + 1} {
				b := make([]int, n)
				b[i] = number
				v, x, ok := impl.ValueSolve(unit(n), b)
				wantNoSolution(t, call("ValueSolve", n, b), v, x, ok)
			}
		}
	}
	for _, u := range noSquares() {
		for _, length := range []int{0, 1, 2, len(u)} {
			v, x, ok := impl.ValueSolve(u, make([]int, length))
			wantNoSolution(t, "ValueSolve of no square", v, x, ok)
		}
	}
	for _, u := range [][][]int{{{0}}, {{1, 2}, {2, 4}}, filled(6, 6, 0), filled(6, 6, 1)} {
		v, x, ok := impl.ValueSolve(u, filled(1, len(u), 1)[0])
		wantNoSolution(t, call("ValueSolve", u), v, x, ok)
	}
}

// P24 and P25.

func TestPromise24(t *testing.T) {
	for _, u := range squares() {
		sum := 0
		for i := range u {
			sum += u[i][i]
		}
		v, ok := impl.ValueTrace(u)
		wantValue(t, call("ValueTrace", u), v, ok, sum)
		w, ok := impl.ValueTrace(turned(u))
		wantValue(t, call("ValueTrace", turned(u)), w, ok, v)
		less, ok := impl.TableTimes(u, -1)
		w, ok1 := impl.ValueTrace(less)
		if !ok || !ok1 || w != -v {
			t.Errorf("ValueTrace(%v) is %d, and times -1 %d", u, v, w)
		}
	}
	checkExamples(t, "ValueTrace", impl.ValueTrace, []example{{[][]int{{-7}}, -7}, {[][]int{{0}}, 0}, {[][]int{{1, 2}, {3, 4}}, 5},
		{filled(6, 6, 30), 180}, {filled(6, 6, -30), -180}}, noSquares())
}

func TestPromise25(t *testing.T) {
	made := 0
	for _, height := range sides {
		for _, width := range sides {
			for seed := range 20 {
				u, w := sample(height, width, 1+seed%3, seed), sample(width, height, 1+seed/7, seed+60)
				x, ok := impl.TableMake(u, w)
				y, back := impl.TableMake(w, u)
				if !ok || !back {
					continue
				}
				made++
				v, ok := impl.ValueTrace(x)
				other, ok1 := impl.ValueTrace(y)
				if !ok || !ok1 || v != other {
					t.Errorf("the products of %v and %v have the traces %d and %d", u, w, v, other)
				}
			}
		}
	}
	if made < 500 {
		t.Errorf("only %d products both ways", made)
	}
}

// Memory and arguments.

func TestValueMemory(t *testing.T) {
	for _, n := range sides {
		for seed := range 3 {
			checkMemory(t, "ValueOther", [][][]int{sample(n, n, 5, seed)}, func(a [][][]int) ([][]int, bool) { return impl.ValueOther(a[0]) })
		}
		numbers := sample(1, n, 5, 7)
		checkMemory(t, "ValueSolve", [][][]int{timesOf(unit(n), 2), numbers}, func(a [][][]int) ([][]int, bool) {
			_, x, ok := impl.ValueSolve(a[0], a[1][0])
			return [][]int{x}, ok
		})
	}
}

// TestValuesKeepArguments calls all functions, also for what makes them fail on their way.
func TestValuesKeepArguments(t *testing.T) {
	for _, u := range append(append(squares(), samples()...), filled(7, 7, 1), [][]int{}, [][]int{{1}, {}}) {
		a, b := loose(u), loose([][]int{make([]int, len(u)), {31}})
		before, beforeB := wholeOf(a), wholeOf(b)
		for range 2 {
			for _, road := range roads {
				road(a)
			}
			impl.ValueMinor(a, 1<<len(u)-1, 1<<len(u)-1)
			impl.ValueMinor(a, 1, 1)
			impl.ValueOther(a)
			impl.ValueRank(a)
			impl.ValueSolve(a, b[0])
			impl.ValueSolve(a, b[1])
			impl.ValueTrace(a)
		}
		if !reflect.DeepEqual(wholeOf(a), before) || !reflect.DeepEqual(wholeOf(b), beforeB) {
			t.Errorf("the argument %v has changed", u)
		}
	}
}

// TestValuesOfSharedRows uses one row as several rows, and as the numbers of ValueSolve.
func TestValuesOfSharedRows(t *testing.T) {
	row := []int{2, -3}
	shared := [][]int{row, row}
	for name, road := range roads {
		v, ok := road(shared)
		wantValue(t, call(name, shared), v, ok, 0)
	}
	u := [][]int{row, {1, 1}}
	v, x, ok := impl.ValueSolve(u, row)
	wantValue(t, call("ValueSolve", u, row), v, ok, 5)
	wantTable(t, call("ValueSolve", u, row), [][]int{x}, ok, [][]int{{-7, -8}})
	scribble(x)
	if row[0] != 2 || row[1] != -3 {
		t.Errorf("ValueSolve shares memory with its numbers, now %v", row)
	}
}
