package tests

import (
	"math"
	"reflect"
	"testing"

	"loop.example/tableminors/impl"
)

// pairRoads are the functions that find the half of a square turned about, plainRoads those that find a sum without
// signs, by their names.
var (
	pairRoads  = map[string]func([][]int) (int, bool){"PairHalf": impl.PairHalf, "PairRows": impl.PairRows}
	plainRoads = map[string]func([][]int) (int, bool){"PlainOrders": impl.PlainOrders, "PlainSums": impl.PlainSums}
)

// listsOf returns all lists that have each of n numbers once, the last one of them put at each place of the lists of
// one less.
func listsOf(n int) [][]int {
	if n == 0 {
		return [][]int{{}}
	}
	all := [][]int{}
	for _, list := range listsOf(n - 1) {
		for at := range n {
			all = append(all, append(append(append([]int{}, list[:at]...), n-1), list[at:]...))
		}
	}
	return all
}

// listsBySides are all lists for each number of rows.
var listsBySides = [][][]int{listsOf(0), listsOf(1), listsOf(2), listsOf(3), listsOf(4), listsOf(5), listsOf(6)}

// shares returns how many lists of n rows have the same pairs, in any order and each one either way round.
func shares(n int) int {
	return []int{1, 0, 2, 0, 8, 0, 48}[n]
}

// halvedOf adds a number for each list of rows, whose first two are a pair, and so on, and for all lists with the same
// pairs together takes just one of them; 0 for odd numbers of rows.
func halvedOf(n int, number func(list []int) int) int {
	if n%2 == 1 {
		return 0
	}
	sum := 0
	for _, list := range listsBySides[n] {
		sum += number(list)
	}
	return sum / shares(n)
}

// halfOf returns the half of a square turned about, with the signs of the lists in place of those of the crossings:
// a pair that is turned round has its entry and the sign of the list turned.
func halfOf(u [][]int) int {
	return halvedOf(len(u), func(list []int) int {
		product := signOfList(list)
		for i := 0; i < len(list); i += 2 {
			product *= u[list[i]][list[i+1]]
		}
		return product
	})
}

// pairCountOf returns the number of pairings with no entry 0.
func pairCountOf(u [][]int) int {
	return halvedOf(len(u), func(list []int) int {
		for i := 0; i < len(list); i += 2 {
			if u[list[i]][list[i+1]] == 0 {
				return 0
			}
		}
		return 1
	})
}

// plainOf returns the sum without signs of a square, found for the first rows and each set of as many columns in turn.
func plainOf(u [][]int) int {
	sums := make([]int, 1<<len(u))
	sums[0] = 1
	for set := 1; set < len(sums); set++ {
		for _, column := range columnsOf(set) {
			sums[set] += u[members(set)-1][column] * sums[set&^(1<<column)]
		}
	}
	return sums[len(sums)-1]
}

// plainCountOf returns the number of lists with no entry 0, as the sum without signs of the square with 1 for these entries.
func plainCountOf(u [][]int) int {
	filledOnes := filled(len(u), len(u), 0)
	for i := range u {
		for k := range u[i] {
			if u[i][k] != 0 {
				filledOnes[i][k] = 1
			}
		}
	}
	return plainOf(filledOnes)
}

// isAbout tells whether a table is a square turned about.
func isAbout(u [][]int) bool {
	if len(u) != len(u[0]) {
		return false
	}
	for i := range u {
		for k := range u {
			if u[i][k]+u[k][i] != 0 {
				return false
			}
		}
	}
	return true
}

// about returns the square turned about with the entries of a square behind its middle.
func about(u [][]int) [][]int {
	w := filled(len(u), len(u), 0)
	for i := range u {
		for k := i + 1; k < len(u); k++ {
			w[i][k], w[k][i] = u[i][k], -u[i][k]
		}
	}
	return w
}

// paired returns the square turned about of n rows with 0 at all places but those of pairs, told as lesser row,
// greater row and entry.
func paired(n int, pairs ...[3]int) [][]int {
	w := filled(n, n, 0)
	for _, p := range pairs {
		w[p[0]][p[1]], w[p[1]][p[0]] = p[2], -p[2]
	}
	return w
}

// abouts returns squares turned about of all sides: mixed ones, those of 0 alone, those with the greatest entries,
// those with one pairing of all there are, those with 0 at some places, and those of small rank.
func abouts() [][][]int {
	var all [][][]int
	for _, n := range sides {
		for seed := range 12 {
			for _, limit := range []int{1, 2, 5, 30} {
				all = append(all, about(sample(n, n, limit, seed+400)))
			}
			few := about(sample(n, n, 30, seed+500))
			for i := range n {
				k := (i + 1 + seed) % n
				few[i][k], few[k][i] = 0, 0
			}
			all = append(all, few)
		}
		all = append(all, filled(n, n, 0), about(filled(n, n, 1)), about(filled(n, n, 30)), about(filled(n, n, -30)))
		for i, list := range listsBySides[n] {
			one := filled(n, n, 0)
			for k := 0; k+1 < n; k += 2 {
				entry := []int{1, -2, 30, -30, 7}[(i+k)%5]
				one[list[k]][list[k+1]], one[list[k+1]][list[k]] = entry, -entry
			}
			all = append(all, one)
		}
		for rank := range n {
			part := sample(n, max(rank, 1), 1, rank+60)
			small := productOf(productOf(part, about(sample(len(part[0]), len(part[0]), 2, rank))), turned(part))
			if within(small) {
				all = append(all, small)
			}
		}
	}
	return all
}

// allAbouts calls a function for all squares turned about of some rows with entries from -1 to 1.
func allAbouts(n int, function func(u [][]int)) {
	for number := range powerOf(3, n*(n-1)/2) {
		u := filled(n, n, 0)
		rest := number
		for i := range n {
			for k := i + 1; k < n; k++ {
				u[i][k], u[k][i] = rest%3-1, 1-rest%3
				rest /= 3
			}
		}
		function(u)
	}
}

// eachAbout calls a function for all samples of squares turned about and all small ones.
func eachAbout(function func(u [][]int)) {
	for _, u := range abouts() {
		function(u)
	}
	for n := 1; n <= 4; n++ {
		allAbouts(n, function)
	}
}

// noAbouts returns squares that are not turned about because of one entry, in the middle or elsewhere, others, tables
// that are no squares, and what is no table.
func noAbouts() [][][]int {
	all := append(noSquares(), paired(7, [3]int{0, 1, 1}), paired(8), [][]int{{1}}, [][]int{{-30}}, [][]int{{0, 1}, {1, 0}}, [][]int{{0, 31}, {-31, 0}},
		[][]int{{0, math.MinInt}, {math.MinInt, 0}}, [][]int{{math.MinInt}}, [][]int{{0, math.MaxInt}, {-math.MaxInt, 0}}, greatSquare())
	for _, n := range sides {
		all = append(all, unit(n), filled(n, n, 1), filled(n, n, -30))
		for i := range n {
			for k := range n {
				for _, entry := range []int{1, -1, 30, -30, 31, math.MinInt} {
					u := about(sample(n, n, 29, i+k))
					u[i][k] += entry
					z := filled(n, n, 0)
					z[i][k] = entry
					all = append(all, u, z)
				}
			}
		}
		if n > 1 {
			symmetric := about(filled(n, n, 3))
			symmetric[n-1][n-2] = 3
			all = append(all, symmetric)
		}
	}
	return all
}

// wantHalves checks the half of a square turned about by both ways.
func wantHalves(t *testing.T, u [][]int, want int) {
	t.Helper()
	for name, road := range pairRoads {
		v, ok := road(u)
		wantValue(t, call(name, u), v, ok, want)
	}
}

// wantPlain checks the sum without signs of a square by both ways.
func wantPlain(t *testing.T, u [][]int, want int) {
	t.Helper()
	for name, road := range plainRoads {
		v, ok := road(u)
		wantValue(t, call(name, u), v, ok, want)
	}
}

// The rules for all functions: what is no square, and what is no square turned about.

func TestNoPairs(t *testing.T) {
	for _, u := range noAbouts() {
		what := call("of what is not turned about", len(u))
		wantHolds(t, "PairIn "+what, impl.PairIn(u), false)
		v, ok := impl.PairHalf(u)
		wantNoValue(t, "PairHalf "+what, v, ok)
		v, ok = impl.PairRows(u)
		wantNoValue(t, "PairRows "+what, v, ok)
		v, ok = impl.PairCount(u)
		wantNoValue(t, "PairCount "+what, v, ok)
		for _, n := range append([]int{len(u)}, sides...) {
			x, ok := impl.PairMake(filled(1, min(max(n, 1), 6), 0), u)
			wantFailure(t, "PairMake "+what, x, ok)
		}
	}
}

func TestNoPlainSums(t *testing.T) {
	others := append(noSquares(), unit(7), filled(8, 8, 1))
	for _, n := range sides {
		for _, entry := range []int{31, -31, math.MaxInt, math.MinInt} {
			for place := range n {
				u := unit(n)
				u[place][n-1-place] = entry
				others = append(others, u)
			}
		}
	}
	for _, u := range others {
		what := call("of no square", len(u))
		v, ok := impl.PlainOrders(u)
		wantNoValue(t, "PlainOrders "+what, v, ok)
		v, ok = impl.PlainSums(u)
		wantNoValue(t, "PlainSums "+what, v, ok)
		v, ok = impl.PlainCount(u)
		wantNoValue(t, "PlainCount "+what, v, ok)
	}
}

// P46.

func TestPromise46(t *testing.T) {
	holds, others := 0, 0
	check := func(u [][]int) {
		in := impl.PairIn(u)
		wantHolds(t, call("PairIn", u), in, isAbout(u))
		if !in {
			others++
			return
		}
		holds++
		back, ok := impl.TableTurn(u)
		if !ok || !impl.PairIn(back) {
			t.Errorf("%v is turned about, but not with rows and columns exchanged", u)
		}
		if rank(t, u)%2 != 0 {
			t.Errorf("%v has the rank %d", u, rank(t, u))
		}
	}
	eachAbout(check)
	for _, u := range samples() {
		check(u)
	}
	for n := 1; n <= 3; n++ {
		allSquares(n, check)
	}
	if holds < 1000 || others < 1000 {
		t.Errorf("only %d squares are turned about and %d are not", holds, others)
	}
}

func TestPairInExamples(t *testing.T) {
	for _, c := range []struct {
		u    [][]int
		want bool
	}{
		{[][]int{{0}}, true}, {[][]int{{1}}, false}, {[][]int{{-1}}, false}, {[][]int{{0, 30}, {-30, 0}}, true}, {[][]int{{0, -30}, {30, 0}}, true},
		{[][]int{{0, 31}, {-31, 0}}, false}, {[][]int{{0, 1}, {1, 0}}, false}, {[][]int{{0, 1}, {0, 0}}, false}, {[][]int{{0, 0}, {-1, 0}}, false},
		{[][]int{{1, 2}, {-2, 0}}, false}, {[][]int{{0, 2}, {-2, 1}}, false}, {[][]int{{1, 2}, {-2, -1}}, false}, {[][]int{{0, 1, 2}, {-1, 0, 3}, {-2, -3, 0}}, true},
		{[][]int{{0, 1, 2}, {-1, 0, 3}, {-2, 3, 0}}, false}, {[][]int{{0, 1, 2}, {-1, 0, 3}}, false}, {[][]int{{0, 1}, {-1, 0}, {0, 0}}, false}, {[][]int{{0, 0}}, false}, {[][]int{{0}, {0}}, false},
		{filled(6, 6, 0), true}, {filled(7, 7, 0), false}, {nil, false}, {[][]int{}, false}, {[][]int{{}}, false}, {[][]int{{0, 1}, {-1}}, false}, {[][]int{{0}, {-1, 0}}, false},
	} {
		wantHolds(t, call("PairIn", c.u), impl.PairIn(c.u), c.want)
	}
}

// P47 and P48, and odd numbers of rows.

func TestPromise47And48(t *testing.T) {
	filledHalves := 0
	eachAbout(func(u [][]int) {
		want := halfOf(u)
		wantHalves(t, u, want)
		v, ok := impl.PairHalf(u)
		square, also := impl.ValuePivots(u)
		if !ok || !also || v*v != square {
			t.Errorf("PairHalf(%v) is %d, and the value %d", u, v, square)
		}
		if len(u)%2 == 1 && v != 0 {
			t.Errorf("PairHalf(%v) is %d", u, v)
		}
		if v != 0 {
			filledHalves++
		}
	})
	if filledHalves < 500 {
		t.Errorf("only %d halves are not 0", filledHalves)
	}
}

// TestOddRows has squares of 1, 3 and 5 rows: there is no pairing, and the half is told as 0.
func TestOddRows(t *testing.T) {
	for _, n := range []int{1, 3, 5} {
		for seed := range 10 {
			for _, u := range [][][]int{about(sample(n, n, 30, seed)), about(filled(n, n, seed*3)), filled(n, n, 0)} {
				wantHolds(t, call("PairIn", u), impl.PairIn(u), true)
				wantHalves(t, u, 0)
				v, ok := impl.PairCount(u)
				wantValue(t, call("PairCount", u), v, ok, 0)
			}
		}
	}
}

// TestPairHalfExamples has also squares with just one pairing, with no, one, two or three crossings, or with none.
func TestPairHalfExamples(t *testing.T) {
	for _, c := range []example{
		{[][]int{{0}}, 0}, {[][]int{{0, 5}, {-5, 0}}, 5}, {[][]int{{0, -5}, {5, 0}}, -5}, {[][]int{{0, 30}, {-30, 0}}, 30}, {filled(2, 2, 0), 0}, {filled(4, 4, 0), 0}, {filled(6, 6, 0), 0},
		{[][]int{{0, 1, 2, 3}, {-1, 0, 4, 5}, {-2, -4, 0, 6}, {-3, -5, -6, 0}}, 8},
		{paired(4, [3]int{0, 1, 2}, [3]int{2, 3, 7}), 14}, {paired(4, [3]int{0, 2, 2}, [3]int{1, 3, 7}), -14}, {paired(4, [3]int{0, 3, 2}, [3]int{1, 2, 7}), 14},
		{paired(4, [3]int{0, 3, 30}, [3]int{1, 2, 30}), 900}, {paired(4, [3]int{0, 2, 30}, [3]int{1, 3, 30}), -900}, {paired(4, [3]int{0, 2, -30}, [3]int{1, 3, 30}), 900},
		{paired(4, [3]int{0, 1, 2}), 0}, {paired(4, [3]int{0, 1, 2}, [3]int{0, 2, 3}, [3]int{0, 3, 4}), 0},
		{paired(6, [3]int{0, 1, 2}, [3]int{2, 3, 3}, [3]int{4, 5, 5}), 30}, {paired(6, [3]int{0, 5, 2}, [3]int{1, 4, 3}, [3]int{2, 3, 5}), 30},
		{paired(6, [3]int{0, 2, 2}, [3]int{1, 3, 3}, [3]int{4, 5, 5}), -30}, {paired(6, [3]int{0, 3, 2}, [3]int{1, 5, 3}, [3]int{2, 4, 5}), 30},
		{paired(6, [3]int{0, 3, 2}, [3]int{1, 4, 3}, [3]int{2, 5, 5}), -30}, {paired(6, [3]int{0, 4, 2}, [3]int{1, 3, 3}, [3]int{2, 5, 5}), 30},
		{about(filled(4, 4, 30)), 900}, {about(filled(6, 6, 30)), 27000}, {about(filled(6, 6, -30)), -27000}, {about(filled(5, 5, 30)), 0},
		{[][]int{{0, 1, 1, 2}, {-1, 0, 1, 1}, {-1, -1, 0, -1}, {-2, -1, 1, 0}}, 0},
	} {
		wantHalves(t, c.u, c.want)
	}
}

// P49.

func TestPromise49(t *testing.T) {
	counts := map[int]int{}
	check := func(u [][]int) {
		n, ok := impl.PairCount(u)
		wantValue(t, call("PairCount", u), n, ok, pairCountOf(u))
		half, also := impl.PairHalf(u)
		if !also || half != 0 && n < 1 || half == 0 && n == 1 {
			t.Errorf("PairCount(%v) is %d, and PairHalf %d", u, n, half)
		}
		counts[n]++
	}
	eachAbout(check)
	for _, n := range []int{0, 1, 2, 3, 4, 6, 8, 15} {
		if counts[n] == 0 {
			t.Errorf("no square has %d pairings: %v", n, counts)
		}
	}
}

func TestPairCountExamples(t *testing.T) {
	checkExamples(t, "PairCount", impl.PairCount, []example{{[][]int{{0}}, 0}, {filled(2, 2, 0), 0}, {[][]int{{0, -1}, {1, 0}}, 1}, {about(filled(3, 3, 1)), 0}, {about(filled(4, 4, 1)), 3}, {about(filled(6, 6, -30)), 15},
		{[][]int{{0, 1, 1, 2}, {-1, 0, 1, 1}, {-1, -1, 0, -1}, {-2, -1, 1, 0}}, 3}, {paired(4, [3]int{0, 1, 1}, [3]int{2, 3, 1}, [3]int{0, 2, 1}), 1},
		{paired(4, [3]int{0, 1, 1}, [3]int{2, 3, 1}, [3]int{0, 2, 1}, [3]int{1, 3, 1}), 2}, {paired(4, [3]int{0, 1, 1}, [3]int{0, 2, 1}, [3]int{0, 3, 1}), 0},
		{paired(6, [3]int{0, 3, 2}, [3]int{1, 4, 3}, [3]int{2, 5, 5}), 1}, {filled(6, 6, 0), 0}}, nil)
}

// P50.

// madeOf returns the product of a table, a square turned about, and the table with rows and columns exchanged.
func madeOf(u, w [][]int) [][]int {
	return productOf(productOf(u, w), turned(u))
}

func TestPromise50(t *testing.T) {
	made, failed, ofSquares := 0, 0, 0
	check := func(u, w [][]int) {
		x, ok := impl.PairMake(u, w)
		wantIf(t, call("PairMake", u, w), x, ok, madeOf(u, w))
		if !ok {
			failed++
			return
		}
		made++
		wantHolds(t, call("PairIn", x), impl.PairIn(x), true)
		if len(u) != len(w) {
			return
		}
		ofSquares++
		half, ok := impl.PairHalf(x)
		first, also := impl.PairHalf(w)
		if !ok || !also || half != value(t, u)*first {
			t.Errorf("PairHalf of the product of %v and %v is %d, that of the second one %d", u, w, half, first)
		}
	}
	for _, w := range abouts() {
		n := len(w)
		check(unit(n), w)
		for _, height := range sides {
			seed := height + w[0][n-1] + w[n-1][n/2]
			check(sample(height, n, 1, seed), w)
			check(sample(height, n, []int{2, 30}[height%2], seed), w)
			single := filled(height, n, 0)
			single[0][0], single[height-1][n-1] = 2, -3
			check(single, w)
		}
	}
	if made < 1000 || failed < 1000 || ofSquares < 500 {
		t.Errorf("only %d products are tables, %d are none, and %d are of squares", made, failed, ofSquares)
	}
}

func TestPairMakeExamples(t *testing.T) {
	two := func(entry int) [][]int { return paired(2, [3]int{0, 1, entry}) }
	for _, c := range []struct {
		u, w, want [][]int
	}{
		{[][]int{{1, 2}, {3, 4}}, two(1), two(-2)}, {[][]int{{5, 0}, {0, 6}}, two(1), two(30)}, {[][]int{{5, 0}, {0, -6}}, two(1), two(-30)}, {[][]int{{1, 2}}, two(30), [][]int{{0}}},
		{[][]int{{30}}, [][]int{{0}}, [][]int{{0}}}, {filled(6, 1, 30), [][]int{{0}}, filled(6, 6, 0)}, {filled(6, 6, 30), about(filled(6, 6, 30)), filled(6, 6, 0)}, {filled(1, 6, -30), about(filled(6, 6, 30)), [][]int{{0}}},
		{[][]int{{1, 0, 0}, {0, 0, 1}}, about(filled(3, 3, 7)), two(7)}, {[][]int{{1}, {2}, {3}}, [][]int{{0}}, filled(3, 3, 0)},
		// The product of the first two of three is beyond the limits, but that of all three is not.
		{[][]int{{2, 0}, {1, 0}}, two(30), two(0)}, {[][]int{{30, 29}, {1, 1}}, two(30), two(30)}, {[][]int{{30, 0}, {0, 1}}, two(1), two(30)},
		{[][]int{{1, 0}, {0, 1}, {1, 1}}, two(30), paired(3, [3]int{0, 1, 30}, [3]int{0, 2, 30}, [3]int{1, 2, -30})},
	} {
		x, ok := impl.PairMake(c.u, c.w)
		wantTable(t, call("PairMake", c.u, c.w), x, ok, c.want)
	}
	for _, c := range [][2][][]int{
		{{{31, 0}, {0, 1}}, two(1)}, {{{1, 0}, {0, -31}}, two(1)}, {{{30, 0}, {-1, 1}}, two(2)}, {{{30, 1}, {-1, 1}}, two(1)}, {{{30, 1}, {1, -1}}, two(1)}, {{{2, 0}, {0, 1}}, two(16)},
		{timesOf(unit(6), 30), about(filled(6, 6, 30))}, {[][]int{{1, 0}, {0, 1}, {2, 1}, {1, 0}}, two(16)},
	} {
		x, ok := impl.PairMake(c[0], c[1])
		wantFailure(t, call("PairMake", c[0], c[1]), x, ok)
	}
}

func TestPairMakeOthers(t *testing.T) {
	for _, u := range noTables() {
		for _, n := range sides {
			x, ok := impl.PairMake(u, filled(n, n, 0))
			wantFailure(t, "PairMake of no table", x, ok)
		}
		x, ok := impl.PairMake(u, u)
		wantFailure(t, "PairMake of no table and itself", x, ok)
	}
	for _, height := range sides {
		for _, width := range sides {
			for _, n := range sides {
				u, w := sample(height, width, 1, 5), about(sample(n, n, 1, 6))
				x, ok := impl.PairMake(u, w)
				if width == n {
					wantTable(t, call("PairMake", u, w), x, ok, madeOf(u, w))
				} else {
					wantFailure(t, call("PairMake", u, w), x, ok)
				}
			}
		}
	}
}

// P51.

func TestPromise51(t *testing.T) {
	check := func(u [][]int) {
		want := plainOf(u)
		wantPlain(t, u, want)
		back, ok := impl.TableTurn(u)
		if !ok {
			t.Errorf("TableTurn(%v) failed", u)
		}
		wantPlain(t, back, want)
	}
	for _, u := range append(squares(), abouts()...) {
		check(u)
	}
	for n := 1; n <= 3; n++ {
		allSquares(n, check)
	}
}

func TestPlainExamples(t *testing.T) {
	for _, c := range []example{
		{[][]int{{0}}, 0}, {[][]int{{-30}}, -30}, {[][]int{{7}}, 7}, {[][]int{{1, 2}, {3, 4}}, 10}, {[][]int{{1, -2}, {3, 4}}, -2}, {[][]int{{-1, -2}, {-3, -4}}, 10}, {[][]int{{0, 1}, {1, 0}}, 1},
		{[][]int{{1, 2, 3}, {4, 5, 6}, {7, 8, 9}}, 450}, {[][]int{{-1, -2, -3}, {-4, -5, -6}, {-7, -8, -9}}, -450}, {[][]int{{1, 1}, {1, -1}}, 0},
		{filled(3, 3, 1), 6}, {filled(6, 6, 1), 720}, {filled(6, 6, -1), 720}, {filled(5, 5, -1), -120}, {filled(6, 6, 30), 720 * 729000000}, {filled(6, 6, -30), 720 * 729000000}, {filled(5, 5, -30), -120 * 24300000},
		{[][]int{{1, 2, 3}, {0, 0, 0}, {4, 5, 6}}, 0}, {[][]int{{1, 0, 3}, {2, 0, 4}, {4, 0, 6}}, 0}, {[][]int{{0, 0, 2}, {3, 0, 0}, {0, -5, 0}}, -30}, {unit(6), 1}, {timesOf(unit(6), -30), 729000000}, {filled(6, 6, 0), 0},
	} {
		wantPlain(t, c.u, c.want)
	}
}

// TestPlainEmptyLines has squares with a row or a column of 0 alone, at each place.
func TestPlainEmptyLines(t *testing.T) {
	for _, n := range sides {
		for place := range n {
			for seed := range 4 {
				u := sample(n, n, 30, seed)
				u[place] = make([]int, n)
				for _, w := range [][][]int{u, turned(u)} {
					wantPlain(t, w, 0)
					c, ok := impl.PlainCount(w)
					wantValue(t, call("PlainCount", w), c, ok, 0)
				}
			}
		}
	}
}

// P52.

func TestPromise52(t *testing.T) {
	without, negative := 0, 0
	check := func(u [][]int) {
		v, ok := impl.PlainSums(u)
		if !ok || (v-value(t, u))%2 != 0 {
			t.Errorf("PlainSums(%v) is %d, and the value %d", u, v, value(t, u))
		}
		least := 0
		for _, row := range u {
			for _, entry := range row {
				least = min(least, entry)
			}
		}
		if least < 0 {
			negative++
			return
		}
		without++
		if v < abs(value(t, u)) {
			t.Errorf("PlainSums(%v) is %d, and the value %d", u, v, value(t, u))
		}
	}
	for _, u := range squares() {
		check(u)
		positive := filled(len(u), len(u), 0)
		for i := range u {
			for k := range u {
				positive[i][k] = abs(u[i][k])
			}
		}
		check(positive)
	}
	for n := 1; n <= 3; n++ {
		allSquares(n, check)
	}
	if without < 300 || negative < 300 {
		t.Errorf("only %d squares have no negative entry and %d have one", without, negative)
	}
}

// P53.

func TestPromise53(t *testing.T) {
	counts := map[int]int{}
	check := func(u [][]int) {
		n, ok := impl.PlainCount(u)
		wantValue(t, call("PlainCount", u), n, ok, plainCountOf(u))
		plain, ok := impl.PlainOrders(u)
		v := value(t, u)
		if !ok || n == 0 && (plain != 0 || v != 0) || n == 1 && (plain == 0 || abs(plain) != abs(v)) {
			t.Errorf("PlainCount(%v) is %d, PlainOrders %d, and the value %d", u, n, plain, v)
		}
		counts[n]++
	}
	for _, u := range append(squares(), abouts()...) {
		check(u)
	}
	for n := 1; n <= 3; n++ {
		allSquares(n, check)
	}
	for _, n := range sides {
		for i, list := range listsBySides[n] {
			if i%7 != 0 && n > 4 {
				continue
			}
			one := filled(n, n, 0)
			for row, column := range list {
				one[row][column] = []int{1, -30, 4}[(i+row)%3]
			}
			check(one)
			one[0][list[0]] = 0
			check(one)
		}
	}
	for _, n := range []int{0, 1, 2, 3, 4, 6, 24, 120, 720} {
		if counts[n] == 0 {
			t.Errorf("no square has %d lists: %v", n, counts)
		}
	}
}

func TestPlainCountExamples(t *testing.T) {
	checkExamples(t, "PlainCount", impl.PlainCount, []example{{[][]int{{0}}, 0}, {[][]int{{-30}}, 1}, {[][]int{{1, 2}, {3, 4}}, 2}, {[][]int{{0, 2}, {3, 4}}, 1}, {[][]int{{1, 1}, {1, -1}}, 2}, {[][]int{{1, 1}, {0, 0}}, 0}, {[][]int{{1, 0}, {1, 0}}, 0},
		{filled(3, 3, 1), 6}, {filled(6, 6, -30), 720}, {filled(6, 6, 0), 0}, {unit(6), 1}, {[][]int{{1, 2, 3}, {0, 1, 4}, {0, 0, -5}}, 1}, {[][]int{{0, 1, 1}, {1, 0, 1}, {1, 1, 0}}, 2}, {[][]int{{1, 0, 0}, {1, 0, 0}, {1, 1, 1}}, 0}}, nil)
}

// Memory and arguments.

func TestPairMemory(t *testing.T) {
	for _, height := range sides {
		for _, n := range sides {
			u, w := sample(height, n, 1, height), about(sample(n, n, 1, n))
			checkMemory(t, "PairMake", [][][]int{u, w}, func(a [][][]int) ([][]int, bool) { return impl.PairMake(a[0], a[1]) })
		}
		w := about(sample(height, height, 5, height))
		checkMemory(t, "PairMake with a unit square", [][][]int{unit(height), w}, func(a [][][]int) ([][]int, bool) { return impl.PairMake(a[0], a[1]) })
		checkMemory(t, "PairMake of one and the same", [][][]int{about(sample(height, height, 1, 2))}, func(a [][][]int) ([][]int, bool) { return impl.PairMake(a[0], a[0]) })
	}
}

// callPairs calls all functions of the chapter for a table and a square and returns what they return.
func callPairs(u, w [][]int) []any {
	results := []any{impl.PairIn(u), impl.PairIn(w)}
	for _, function := range []func([][]int) (int, bool){impl.PairHalf, impl.PairRows, impl.PairCount, impl.PlainOrders, impl.PlainSums, impl.PlainCount} {
		v, ok := function(u)
		results = append(results, v, ok)
	}
	x, ok := impl.PairMake(u, w)
	y, also := impl.PairMake(w, u)
	return append(results, x, ok, y, also)
}

// TestPairsKeepArguments calls all functions, also for what makes them fail.
func TestPairsKeepArguments(t *testing.T) {
	all := append(append(append(abouts(), squares()...), samples()...), noTables()...)
	for i, u := range all {
		w := about(sample(min(max(len(u), 1), 6), 6, 3, i))
		if len(u) > 100 || len(u) > 0 && len(u[0]) > 100 {
			continue
		}
		a, b := loose(u), loose(w)
		beforeA, beforeB := wholeOf(a), wholeOf(b)
		first := callPairs(a, b)
		if second := callPairs(a, b); !reflect.DeepEqual(first, second) {
			t.Errorf("two calls for %v and %v differ", u, w)
		}
		if !reflect.DeepEqual(wholeOf(a), beforeA) || !reflect.DeepEqual(wholeOf(b), beforeB) {
			t.Errorf("the argument %v or %v has changed", u, w)
		}
	}
}

// TestPairsOfSharedRows uses one row as several rows, and one table as both.
func TestPairsOfSharedRows(t *testing.T) {
	none := []int{0, 0}
	wantHalves(t, [][]int{none, none}, 0)
	row := []int{2, -3}
	wantPlain(t, [][]int{row, row}, -12)
	c, ok := impl.PlainCount([][]int{row, row})
	wantValue(t, "PlainCount of one row twice", c, ok, 2)
	x, ok := impl.PairMake([][]int{row, row, {1, 1}}, [][]int{{0, 1}, {-1, 0}})
	wantTable(t, "PairMake of one row twice", x, ok, paired(3, [3]int{0, 2, 5}, [3]int{1, 2, 5}))
	w := paired(2, [3]int{0, 1, 3})
	x, ok = impl.PairMake(w, w)
	wantTable(t, "PairMake of one and the same", x, ok, paired(2, [3]int{0, 1, 27}))
	wantTable(t, "the square", w, true, paired(2, [3]int{0, 1, 3}))
	wantList(t, "the row", row, true, []int{2, -3})
}
