package tests

import (
	"math"
	"reflect"
	"slices"
	"sync"
	"testing"

	"loop.example/tableminors/impl"
)

const million = 1000000

// squarePolys are the functions that find the polynomial of a square, by their names.
var squarePolys = map[string]func([][]int) ([]int, bool){"PolyMiddle": impl.PolyMiddle, "PolySums": impl.PolySums}

// polynomialOf finds the value by rows, with the numbers of a polynomial in place of each entry.
func polynomialOf(u [][]int) []int {
	return polynomialFrom(u, 0, 1<<len(u)-1)
}

// polynomialFrom has the rows from one on, and the columns of a set.
func polynomialFrom(u [][]int, row, columns int) []int {
	p := make([]int, len(u)+1)
	if row == len(u) {
		p[0] = 1
		return p
	}
	for place, column := range columnsOf(columns) {
		sign := 1 - 2*(place%2)
		for i, number := range polynomialFrom(u, row+1, columns&^(1<<column)) {
			p[i] -= sign * u[row][column] * number
			if row == column && number != 0 {
				p[i+1] += sign * number
			}
		}
	}
	return p
}

// atOf adds from the power of 0 on.
func atOf(p []int, x int) int {
	sum := 0
	for i, number := range p {
		sum += number * powerOf(x, i)
	}
	return sum
}

func squarePowerOf(u [][]int, k int) [][]int {
	x := unit(len(u))
	for range k {
		x = productOf(x, u)
	}
	return x
}

func traceOf(u [][]int) int {
	sum := 0
	for i, row := range u {
		sum += row[i]
	}
	return sum
}

// putOf goes down from the greatest power.
func putOf(u [][]int, p []int) [][]int {
	x := filled(len(u), len(u), 0)
	for _, number := range slices.Backward(p) {
		x = sums(productOf(x, u), timesOf(unit(len(u)), number))
	}
	return x
}

// polyTableOf has the numbers in the last column, and a unit square below the first row.
func polyTableOf(p []int) [][]int {
	u := filled(len(p), len(p), 0)
	for i, number := range p {
		if i > 0 {
			u[i][i-1] = 1
		}
		u[i][len(p)-1] -= number
	}
	return u
}

// likeSquares returns squares that have the polynomial of a square: it with its rows and columns exchanged, with its last
// row and column brought to the first place, and with a row added to another one while that one's column is taken from
// its own, if this is a table.
func likeSquares(u [][]int) [][][]int {
	n := len(u)
	around, added := filled(n, n, 0), partOf(u, 1<<n-1, 1<<n-1)
	for i := range n {
		for k := range n {
			around[(i+1)%n][(k+1)%n] = u[i][k]
		}
	}
	for k := range n {
		added[0][k] += added[n-1][k]
	}
	for i := range n {
		added[i][n-1] -= added[i][0]
	}
	if n == 1 || !within(added) {
		return [][][]int{turned(u), around}
	}
	return [][][]int{turned(u), around, added}
}

// polySquares returns squares of all sides, also those that are told by their polynomials.
func polySquares() [][][]int {
	all := squares()
	for _, n := range sides {
		for seed, limit := range []int{0, 1, 2, 9, 30} {
			all = append(all, polyTableOf(sample(1, n, limit, seed)[0]))
		}
		steps := filled(n, n, 0)
		for i := range n {
			steps[i][i] = i + 1
		}
		shift := filled(n, n, 0)
		for i := range n - 1 {
			shift[i][i+1] = 1
		}
		all = append(all, steps, shift)
	}
	return all
}

// eachPolySquare calls a function for these squares, and for all small ones.
func eachPolySquare(function func(u [][]int)) {
	for _, u := range polySquares() {
		function(u)
	}
	allTables(2, 2, []int{-2, -1, 0, 1, 2, 30}, function)
	allTables(3, 3, []int{-1, 0, 1}, function)
}

// eachPolynomial calls a function for lists of 1 to 7 numbers: small ones, all that are as great as they may be, and
// those with one such number at each place.
func eachPolynomial(function func(p []int)) {
	for count := 1; count <= 7; count++ {
		for seed := range 12 {
			function(sample(1, count, 1, seed)[0])
			function(sample(1, count, 9, seed)[0])
			function(sample(1, count, million, seed)[0])
		}
		for _, p := range allLists(count, []int{-million, 0, million}) {
			if count <= 3 || !slices.Contains(p, 0) {
				function(p)
			}
		}
		for place := range count {
			for _, number := range []int{-million, -1, 1, million} {
				p := make([]int, count)
				p[place] = number
				function(p)
			}
		}
	}
	function([]int{1, 2, 3, 4, 5, 6, 7})
}

// noPolynomials returns lists of no numbers, of too many, and with one that is beyond the limits at each place.
func noPolynomials() [][]int {
	all := [][]int{nil, {}, {1, 2, 3, 4, 5, 6, 7, 8}}
	for _, count := range []int{8, 9, 14, 64, 1000, 100000} {
		for _, number := range []int{0, 1, -million} {
			all = append(all, slices.Repeat([]int{number}, count))
		}
	}
	for count := 1; count <= 7; count++ {
		for place := range count {
			for _, number := range []int{million + 1, -million - 1, 1 << 32, -1 << 32, 1 << 62, math.MaxInt, math.MinInt, math.MinInt + 1} {
				for _, others := range []int{0, 1, million} {
					p := slices.Repeat([]int{others}, count)
					p[place] = number
					all = append(all, p)
				}
			}
		}
	}
	return all
}

// noPlaces are numbers at which no polynomial has a value.
var noPlaces = []int{-10, 10, -11, 11, 90, -1 << 32, 1 << 32, 1<<32 + 1, 1 << 62, math.MaxInt, math.MinInt, math.MinInt + 1}

// wantPolynomial checks all functions of a square alone.
func wantPolynomial(t *testing.T, u [][]int) {
	t.Helper()
	want := polynomialOf(u)
	for name, function := range squarePolys {
		p, ok := function(u)
		wantList(t, call(name, u), p, ok, want)
	}
	for k := range 7 {
		v, ok := impl.PolyPower(u, k)
		wantValue(t, call("PolyPower", u, k), v, ok, traceOf(squarePowerOf(u, k)))
	}
}

// polynomialMiddle calls PolyMiddle for a square.
func polynomialMiddle(t *testing.T, u [][]int) []int {
	t.Helper()
	p, ok := impl.PolyMiddle(u)
	wantList(t, call("PolyMiddle", u), p, ok, polynomialOf(u))
	return p
}

// wantPut checks PolyPut for any square and polynomial.
func wantPut(t *testing.T, u [][]int, p []int) {
	t.Helper()
	x, ok := impl.PolyPut(u, p)
	if len(u) > 4 {
		wantFailure(t, call("PolyPut", u, p), x, ok)
	} else {
		wantTable(t, call("PolyPut", u, p), x, ok, putOf(u, p))
	}
}

// wantSame checks PolySame for two squares in both orders.
func wantSame(t *testing.T, u, w [][]int, want bool) {
	t.Helper()
	wantHolds(t, call("PolySame", u, w), impl.PolySame(u, w), want)
	wantHolds(t, call("PolySame", w, u), impl.PolySame(w, u), want)
}

// The rules for all functions.

func TestNoPolySquares(t *testing.T) {
	for _, u := range noSquares() {
		what := call("no square of", len(u), "rows")
		for name, function := range squarePolys {
			p, ok := function(u)
			wantNoList(t, call(name, what), p, ok)
		}
		for k := range 7 {
			v, ok := impl.PolyPower(u, k)
			wantNoValue(t, call("PolyPower", what, k), v, ok)
		}
		for _, p := range [][]int{{0}, {1}, {0, 1}, {1, 2, 3, 4, 5, 6, 7}, nil} {
			x, ok := impl.PolyPut(u, p)
			wantFailure(t, call("PolyPut", what, p), x, ok)
		}
		for _, w := range [][][]int{u, {{0}}, {{1}}, unit(2), filled(6, 6, 0)} {
			wantHolds(t, call("PolySame", what), impl.PolySame(u, w), false)
			wantHolds(t, call("PolySame", what), impl.PolySame(w, u), false)
		}
	}
	// One of both is a square with the entries of the other one.
	wantSame(t, [][]int{{1, 2}, {3, 4}}, [][]int{{1, 2}, {3, 4}, {0, 0}}, false)
	wantSame(t, [][]int{{1, 2}, {3, 4}}, [][]int{{1, 2, 0}, {3, 4, 0}}, false)
	wantSame(t, [][]int{{30}}, [][]int{{31}}, false)
}

// TestNoPolynomials has what tells no polynomial, at places where others have values, and for squares for which others
// are put.
func TestNoPolynomials(t *testing.T) {
	for _, p := range noPolynomials() {
		what := call("", p[:min(8, len(p))], "of", len(p))
		for _, x := range []int{-9, -1, 0, 1, 9, 10} {
			v, ok := impl.PolyAt(p, x)
			wantNoValue(t, call("PolyAt", what, x), v, ok)
		}
		for _, u := range [][][]int{{{0}}, {{1}}, unit(2), filled(4, 4, 0), unit(4), unit(5), {{1, 2, 3}}} {
			y, ok := impl.PolyPut(u, p)
			wantFailure(t, call("PolyPut", u, what), y, ok)
		}
	}
}

func TestNoPolyPlaces(t *testing.T) {
	eachPolynomial(func(p []int) {
		for _, x := range noPlaces {
			v, ok := impl.PolyAt(p, x)
			wantNoValue(t, call("PolyAt", p, x), v, ok)
		}
	})
}

// TestPolyPutOfManyRows has squares of five and six rows, with their own polynomials and others.
func TestPolyPutOfManyRows(t *testing.T) {
	for _, n := range []int{5, 6} {
		for _, u := range [][][]int{filled(n, n, 0), unit(n), filled(n, n, 30), sample(n, n, 2, n)} {
			for _, p := range [][]int{polynomialOf(u), {0}, {1}, {million}, {0, 1}, {1, 2, 3, 4, 5, 6, 7}} {
				x, ok := impl.PolyPut(u, p)
				wantFailure(t, call("PolyPut", u, p), x, ok)
			}
		}
	}
}

func TestNoPolyTables(t *testing.T) {
	for _, p := range noKnownLists() {
		u, ok := impl.PolyTable(p)
		wantFailure(t, call("PolyTable of", len(p), "numbers"), u, ok)
	}
	eachBeyond(30, func(p []int) {
		u, ok := impl.PolyTable(p)
		wantFailure(t, call("PolyTable", p), u, ok)
	})
	// Among others that are as great as they may be.
	for _, count := range sides {
		for place := range count {
			for _, number := range []int{31, -31} {
				p := slices.Repeat([]int{number / 31 * 30}, count)
				p[place] = number
				u, ok := impl.PolyTable(p)
				wantFailure(t, call("PolyTable", p), u, ok)
			}
		}
	}
}

func TestNoPolyPowers(t *testing.T) {
	for _, u := range [][][]int{{{0}}, {{1}}, {{30}}, unit(2), sample(3, 3, 30, 1), filled(6, 6, 0), unit(6)} {
		for _, k := range beyond(6) {
			v, ok := impl.PolyPower(u, k)
			wantNoValue(t, call("PolyPower", u, k), v, ok)
		}
	}
}

// TestPolysOfOneRow checks all functions for squares of one row, also for entries beyond the limits.
func TestPolysOfOneRow(t *testing.T) {
	for entry := -31; entry <= 31; entry++ {
		one, less := [][]int{{entry}}, []int{-entry}
		x, ok := impl.PolyTable(less)
		if entry < -30 || entry > 30 {
			wantFailure(t, call("PolyTable", less), x, ok)
			wantSame(t, one, one, false)
			continue
		}
		wantTable(t, call("PolyTable", less), x, ok, one)
		for name, function := range squarePolys {
			p, ok := function(one)
			wantList(t, call(name, one), p, ok, []int{-entry, 1})
		}
		for other := -31; other <= 31; other++ {
			wantSame(t, one, [][]int{{other}}, entry == other)
		}
		for k := range 7 {
			v, ok := impl.PolyPower(one, k)
			wantValue(t, call("PolyPower", one, k), v, ok, powerOf(entry, k))
		}
		x, ok = impl.PolyPut(one, []int{-entry, 1})
		wantTable(t, call("PolyPut", one, "its own"), x, ok, [][]int{{0}})
		eachPolynomial(func(p []int) {
			x, ok := impl.PolyPut(one, p)
			wantTable(t, call("PolyPut", one, p), x, ok, [][]int{{atOf(p, entry)}})
		})
	}
}

// TestPolynomialExamples has squares with their polynomials and the sums of the middle of their powers.
func TestPolynomialExamples(t *testing.T) {
	for _, c := range []struct {
		u      [][]int
		p      []int
		powers []int
	}{
		{[][]int{{1, 2}, {3, 4}}, []int{-2, -5, 1}, []int{2, 5, 29, 155, 833, 4475, 24041}},
		{[][]int{{0, 1}, {0, 0}}, []int{0, 0, 1}, []int{2, 0, 0, 0, 0, 0, 0}},
		{[][]int{{0, 1}, {-1, 0}}, []int{1, 0, 1}, []int{2, 0, -2, 0, 2, 0, -2}},
		{[][]int{{2, 0}, {0, 3}}, []int{6, -5, 1}, []int{2, 5, 13, 35, 97, 275, 793}},
		{[][]int{{2, 7}, {0, 3}}, []int{6, -5, 1}, []int{2, 5, 13, 35, 97, 275, 793}},
		{[][]int{{30, 30}, {30, 30}}, []int{0, -60, 1}, []int{2, 60, 3600, 216000, 12960000, 777600000, 46656000000}},
		{[][]int{{30, -30}, {30, 30}}, []int{1800, -60, 1}, []int{2, 60, 0, -108000, -6480000, -194400000, 0}},
		{[][]int{{1, 2, 3}, {4, 5, 6}, {7, 8, 9}}, []int{0, -18, -15, 1}, []int{3, 15, 261, 4185, 67473, 1087425, 17525889}},
		{[][]int{{0, 0, 1}, {1, 0, 0}, {0, 1, 0}}, []int{-1, 0, 0, 1}, []int{3, 0, 0, 3, 0, 0, 3}},
		{[][]int{{2, -1, 0}, {-1, 2, -1}, {0, -1, 2}}, []int{-4, 10, -6, 1}, []int{3, 6, 16, 48, 152, 496, 1648}},
		{[][]int{{-3, 1, 4}, {1, -5, 9}, {2, 6, -5}}, []int{-174, -8, 13, 1}, []int{3, -13, 185, -1987, 25049, -309343, 3876113}},
		{filled(3, 3, 30), []int{0, 0, -90, 1}, []int{3, 90, 8100, 729000, 65610000, 5904900000, 531441000000}},
		{[][]int{{1, 2, 3, 4}, {5, 6, 7, 8}, {9, 10, 11, 12}, {13, 14, 15, 16}}, []int{0, 0, -80, -34, 1}, []int{4, 34, 1316, 47464, 1719056, 62245024, 2253855296}},
		{[][]int{{0, 1, 0, 0}, {0, 0, 1, 0}, {0, 0, 0, 1}, {0, 0, 0, 0}}, []int{0, 0, 0, 0, 1}, []int{4, 0, 0, 0, 0, 0, 0}},
		{[][]int{{30, 30, 30, 30}, {30, -30, 30, -30}, {30, 30, -30, -30}, {30, -30, -30, 30}}, []int{12960000, 0, -7200, 0, 1}, []int{4, 0, 14400, 0, 51840000, 0, 186624000000}},
		{[][]int{{1, 1, 1, 1, 1}, {1, 2, 2, 2, 2}, {1, 2, 3, 3, 3}, {1, 2, 3, 4, 4}, {1, 2, 3, 4, 5}}, []int{-1, 9, -28, 35, -15, 1}, []int{5, 15, 155, 1884, 23219, 286555, 3537032}},
		{[][]int{{0, 0, 0, 0, -1}, {1, 0, 0, 0, 2}, {0, 1, 0, 0, -3}, {0, 0, 1, 0, 4}, {0, 0, 0, 1, -5}}, []int{1, -2, 3, -4, 5, 1}, []int{5, -5, 33, -194, 1125, -6515, 37728}},
		{[][]int{{1, 0, 0, 0, 0, 0}, {0, 2, 0, 0, 0, 0}, {0, 0, 3, 0, 0, 0}, {0, 0, 0, 4, 0, 0}, {0, 0, 0, 0, 5, 0}, {0, 0, 0, 0, 0, 6}}, []int{720, -1764, 1624, -735, 175, -21, 1}, []int{6, 21, 91, 441, 2275, 12201, 67171}},
		{unit(6), []int{1, -6, 15, -20, 15, -6, 1}, []int{6, 6, 6, 6, 6, 6, 6}},
		{filled(6, 6, 0), []int{0, 0, 0, 0, 0, 0, 1}, []int{6, 0, 0, 0, 0, 0, 0}},
		{filled(6, 6, -30), []int{0, 0, 0, 0, 0, 180, 1}, []int{6, -180, 32400, -5832000, 1049760000, -188956800000, 34012224000000}},
		{greatSquare(), []int{116640000000, 6998400000, 155520000, 1728000, 16200, 180, 1}, []int{6, -180, 0, -2268000, 97200000, 12247200000, 699840000000}},
	} {
		for name, function := range squarePolys {
			p, ok := function(c.u)
			wantList(t, call(name, c.u), p, ok, c.p)
		}
		for k, want := range c.powers {
			v, ok := impl.PolyPower(c.u, k)
			wantValue(t, call("PolyPower", c.u, k), v, ok, want)
		}
	}
}

func TestPolyAtExamples(t *testing.T) {
	most := slices.Repeat([]int{million}, 7)
	for _, c := range []struct {
		p       []int
		x, want int
	}{
		{[]int{5}, 0, 5}, {[]int{5}, 9, 5}, {[]int{-million}, -9, -million}, {[]int{0}, 3, 0}, {[]int{0, 1}, 9, 9}, {[]int{0, 1}, -9, -9}, {[]int{2, 3}, 4, 14}, {[]int{3, 2}, 4, 11}, {[]int{-2, -5, 1}, 0, -2}, {[]int{-2, -5, 1}, 1, -6}, {[]int{-2, -5, 1}, -1, 4}, {[]int{-2, -5, 1}, 6, 4},
		{[]int{1, 2, 3, 4, 5, 6, 7}, 0, 1}, {[]int{1, 2, 3, 4, 5, 6, 7}, 1, 28}, {[]int{1, 2, 3, 4, 5, 6, 7}, -1, 4}, {[]int{1, 2, 3, 4, 5, 6, 7}, 2, 769}, {[]int{0, 0, 0, 0, 0, 0, 1}, 9, 531441}, {[]int{0, 0, 0, 0, 0, 0, -1}, -9, -531441}, {[]int{0, 0, 0, 0, 0, 1, 0}, -9, -59049},
		{most, 0, million}, {most, 1, 7 * million}, {most, -1, million}, {most, 9, 597871 * million}, {most, -9, 478297 * million}, {timesList(most, -1), 9, -597871 * million},
	} {
		v, ok := impl.PolyAt(c.p, c.x)
		wantValue(t, call("PolyAt", c.p, c.x), v, ok, c.want)
	}
}

func TestPolyPutExamples(t *testing.T) {
	most, great := slices.Repeat([]int{million}, 7), filled(4, 4, 752769075630000000)
	for i := range great {
		great[i][i] += million
	}
	for _, c := range []struct {
		u    [][]int
		p    []int
		want [][]int
	}{
		{[][]int{{1, 2}, {3, 4}}, []int{-2, -5, 1}, filled(2, 2, 0)}, {[][]int{{1, 2}, {3, 4}}, []int{7}, [][]int{{7, 0}, {0, 7}}}, {[][]int{{1, 2}, {3, 4}}, []int{0, 1}, [][]int{{1, 2}, {3, 4}}}, {[][]int{{1, 2}, {3, 4}}, []int{0}, filled(2, 2, 0)},
		{[][]int{{1, 2}, {3, 4}}, []int{1, 1, 1}, [][]int{{9, 12}, {18, 27}}}, {[][]int{{1, 2}, {3, 4}}, []int{0, 0, 0, 0, 0, 0, 1}, [][]int{{5743, 8370}, {12555, 18298}}}, {[][]int{{0, 1}, {0, 0}}, []int{5, -3, 9, 9}, [][]int{{5, -3}, {0, 5}}},
		{[][]int{{3}}, []int{1, 2, 3}, [][]int{{34}}}, {[][]int{{-30}}, most, [][]int{{705483871 * million}}}, {filled(4, 4, 30), most, great}, {filled(4, 4, 30), timesList(most, -1), timesOf(great, -1)}, {filled(4, 4, 0), []int{million, -million}, timesOf(unit(4), million)},
		{[][]int{{0, 1, 0}, {0, 0, 1}, {1, 0, 0}}, []int{1, 2, 3, 4, 5, 6, 7}, [][]int{{12, 7, 9}, {9, 12, 7}, {7, 9, 12}}}, {[][]int{{2, -1, 0}, {-1, 2, -1}, {0, -1, 2}}, []int{-4, 10, -6, 1}, filled(3, 3, 0)}, {[][]int{{2, -1, 0}, {-1, 2, -1}, {0, -1, 2}}, []int{4, 10, 6, 1}, [][]int{{68, -48, 12}, {-48, 80, -48}, {12, -48, 68}}},
	} {
		x, ok := impl.PolyPut(c.u, c.p)
		wantTable(t, call("PolyPut", c.u, c.p), x, ok, c.want)
	}
}

func TestPolyTableExamples(t *testing.T) {
	for _, c := range []struct {
		p    []int
		want [][]int
	}{
		{[]int{7}, [][]int{{-7}}}, {[]int{0}, [][]int{{0}}}, {[]int{-30}, [][]int{{30}}}, {[]int{6, -5}, [][]int{{0, -6}, {1, 5}}}, {[]int{0, 0}, [][]int{{0, 0}, {1, 0}}}, {[]int{1, 2, 3}, [][]int{{0, 0, -1}, {1, 0, -2}, {0, 1, -3}}},
		{[]int{30, -30, 0, 1}, [][]int{{0, 0, 0, -30}, {1, 0, 0, 30}, {0, 1, 0, 0}, {0, 0, 1, -1}}}, {[]int{1, -2, 3, -4, 5}, [][]int{{0, 0, 0, 0, -1}, {1, 0, 0, 0, 2}, {0, 1, 0, 0, -3}, {0, 0, 1, 0, 4}, {0, 0, 0, 1, -5}}},
		{[]int{1, 2, 3, 4, 5, -30}, [][]int{{0, 0, 0, 0, 0, -1}, {1, 0, 0, 0, 0, -2}, {0, 1, 0, 0, 0, -3}, {0, 0, 1, 0, 0, -4}, {0, 0, 0, 1, 0, -5}, {0, 0, 0, 0, 1, 30}}},
	} {
		u, ok := impl.PolyTable(c.p)
		wantTable(t, call("PolyTable", c.p), u, ok, c.want)
	}
}

// TestPolySameExamples has squares of which only one number of both polynomials is another one, and those of which one
// polynomial goes on where the other one ends.
func TestPolySameExamples(t *testing.T) {
	for _, c := range []struct {
		u, w [][]int
		want bool
	}{
		{[][]int{{2, 0}, {0, 3}}, [][]int{{2, 7}, {0, 3}}, true}, {[][]int{{2, 0}, {0, 3}}, [][]int{{3, 0}, {0, 2}}, true}, {[][]int{{2, 0}, {0, 3}}, [][]int{{0, -6}, {1, 5}}, true}, {[][]int{{2, 0}, {0, 3}}, [][]int{{6, 0}, {0, 1}}, false}, {[][]int{{2, 0}, {0, 3}}, [][]int{{4, 0}, {0, 1}}, false}, {[][]int{{2, 0}, {0, 3}}, [][]int{{-2, 0}, {0, -3}}, false},
		{[][]int{{0, 1}, {0, 0}}, filled(2, 2, 0), true}, {[][]int{{0, 0}, {1, 0}}, [][]int{{0, 1}, {0, 0}}, true}, {[][]int{{30, -30}, {30, -30}}, filled(2, 2, 0), true}, {[][]int{{1, 1}, {1, 1}}, [][]int{{2, 0}, {0, 0}}, true}, {[][]int{{1, 1}, {1, 1}}, unit(2), false},
		{[][]int{{0}}, filled(2, 2, 0), false}, {[][]int{{0}}, [][]int{{0, 0}, {0, -1}}, false}, {[][]int{{-1}}, unit(2), false}, {filled(5, 5, 0), filled(6, 6, 0), false}, {unit(5), unit(6), false}, {[][]int{{0, 1}, {0, 0}}, [][]int{{0, 1, 0}, {0, 0, 0}, {0, 0, -1}}, false},
		{[][]int{{1, 0, 0}, {0, 2, 0}, {0, 0, 3}}, [][]int{{3, 0, 0}, {5, 1, 0}, {-7, 9, 2}}, true}, {polyTableOf([]int{1, 2, 3}), polyTableOf([]int{0, 2, 3}), false}, {polyTableOf([]int{1, 2, 3}), polyTableOf([]int{1, 3, 3}), false}, {polyTableOf([]int{1, 2, 3}), polyTableOf([]int{1, 2, 2}), false}, {polyTableOf([]int{1, 2, 3}), polyTableOf([]int{3, 2, 1}), false},
		{filled(6, 6, 30), filled(6, 6, -30), false}, {filled(6, 6, 30), turned(filled(6, 6, 30)), true}, {greatSquare(), turned(greatSquare()), true}, {greatSquare(), filled(6, 6, 30), false},
	} {
		wantSame(t, c.u, c.w, c.want)
	}
}

// TestPolynomials checks all functions of a square alone.
func TestPolynomials(t *testing.T) {
	eachPolySquare(func(u [][]int) { wantPolynomial(t, u) })
}

// P88.

func TestPromise88(t *testing.T) {
	eachPolySquare(func(u [][]int) {
		p, ok := impl.PolyMiddle(u)
		q, also := impl.PolySums(u)
		n := len(u)
		if !ok || !also || !slices.Equal(p, q) || len(p) != n+1 {
			t.Errorf("%s returned %v, %v, and PolySums %v, %v", call("PolyMiddle", u), p, ok, q, also)
			return
		}
		wantValue(t, call("the last number of PolyMiddle", u), p[n], ok, 1)
		wantValue(t, call("the first number of PolyMiddle", u), p[0], ok, value(t, u)*(1-2*(n%2)))
	})
}

// TestPolynomialOfSmallRank has squares of other rank than their number of rows: at least as many first numbers are 0
// as the rank is less.
func TestPolynomialOfSmallRank(t *testing.T) {
	less := map[int]int{}
	eachPolySquare(func(u [][]int) {
		missing := len(u) - rankOf(u)
		if missing > 0 {
			less[len(u)]++
		}
		for name, function := range squarePolys {
			p, ok := function(u)
			wantList(t, call(name, u), p[:min(missing, len(p))], ok, make([]int, missing))
		}
	})
	for _, n := range sides {
		if n > 1 && less[n] < 10 {
			t.Errorf("only %d squares of %d rows have another rank", less[n], n)
		}
	}
}

// P89.

func TestPromise89(t *testing.T) {
	eachPolySquare(func(u [][]int) {
		p, ok := impl.PolySums(u)
		q, also := impl.PolySums(turned(u))
		if !ok || !also || !slices.Equal(p, q) || len(p) != len(u)+1 {
			t.Errorf("%s returned %v, %v, and %v, %v turned", call("PolySums", u), p, ok, q, also)
			return
		}
		trace, _ := impl.ValueTrace(u)
		wantValue(t, call("the last but one number of PolySums", u), p[len(u)-1], ok, -trace)
	})
}

// P90.

func TestPromise90(t *testing.T) {
	told, failed, beyond := map[int]int{}, 0, 0
	eachPolySquare(func(u [][]int) {
		p, own := polynomialMiddle(t, u), polynomialOf(u)
		v, also := impl.PolyAt(p, 2)
		put := sums(timesOf(u, -1), timesOf(unit(len(u)), 2))
		switch {
		case !numbersWithin(own, million):
			failed++
			wantNoValue(t, call("PolyAt", p, 2), v, also)
		case !within(put):
			beyond++
			wantValue(t, call("PolyAt", p, 2), v, also, valueOf(put))
		default:
			told[len(u)]++
			wantValue(t, call("PolyAt", p, 2), v, also, value(t, put))
		}
	})
	for _, n := range sides {
		if told[n] < 20 {
			t.Errorf("only %d squares of %d rows are told", told[n], n)
		}
	}
	if failed < 20 || beyond < 10 {
		t.Errorf("only %d polynomials are beyond the limits, and %d of those at 2", failed, beyond)
	}
}

// P91.

func TestPromise91(t *testing.T) {
	eachPolynomial(func(p []int) {
		v, ok := impl.PolyAt(p, 0)
		wantValue(t, call("PolyAt", p, 0), v, ok, p[0])
		v, ok = impl.PolyAt(p, 1)
		wantValue(t, call("PolyAt", p, 1), v, ok, totalOf(p))
		for x := -9; x <= 9; x++ {
			v, ok = impl.PolyAt(p, x)
			wantValue(t, call("PolyAt", p, x), v, ok, atOf(p, x))
		}
	})
}

// P92.

func TestPromise92(t *testing.T) {
	put, failed := map[int]int{}, 0
	eachPolySquare(func(u [][]int) {
		if len(u) > 4 {
			return
		}
		x, ok := impl.PolyPut(u, polynomialMiddle(t, u))
		if numbersWithin(polynomialOf(u), million) {
			put[len(u)]++
			wantTable(t, call("PolyPut", u, "its own"), x, ok, filled(len(u), len(u), 0))
		} else {
			failed++
			wantFailure(t, call("PolyPut", u, "its own"), x, ok)
		}
	})
	for n := 1; n <= 4; n++ {
		if put[n] < 40 {
			t.Errorf("only %d squares of %d rows are put for their own polynomials", put[n], n)
		}
	}
	if failed < 2 {
		t.Errorf("only %d polynomials are beyond the limits", failed)
	}
}

// TestPromise92Others has polynomials that are not those of the squares.
func TestPromise92Others(t *testing.T) {
	for _, n := range []int{1, 2, 3, 4, 5} {
		for seed, limit := range []int{0, 1, 5, 30} {
			u := sample(n, n, limit, seed)
			eachPolynomial(func(p []int) {
				wantPut(t, u, p)
				x, ok := impl.PolyPut(u, p)
				y, also := impl.PolyPut(turned(u), p)
				if ok != also || ok && !same(turned(x), y) {
					t.Errorf("%s returned %v, %v, and %v, %v turned", call("PolyPut", u, p), x, ok, y, also)
				}
			})
		}
	}
	eachPolySquare(func(u [][]int) { wantPut(t, u, []int{3, -1, 2, 0, 0, 1}) })
}

// TestPolyPutOfOthersWithMoreFactors has the polynomial of a square with x as a further factor, and without its last number.
func TestPolyPutOfOthersWithMoreFactors(t *testing.T) {
	for _, n := range []int{2, 3, 4} {
		for seed := range 20 {
			u := sample(n, n, 3, seed)
			p := polynomialOf(u)
			x, ok := impl.PolyPut(u, append([]int{0}, p...))
			wantTable(t, call("PolyPut", u, "x times its own"), x, ok, filled(n, n, 0))
			x, ok = impl.PolyPut(u, p[:n])
			wantTable(t, call("PolyPut", u, "its own but for the last number"), x, ok, timesOf(squarePowerOf(u, n), -1))
		}
	}
}

// P93.

// eachPolyTable calls a function for lists of 1 to 6 numbers within the limits of entries.
func eachPolyTable(function func(p []int)) {
	for count, numbers := range [][]int{nil, nil, {-30, -29, -3, -1, 0, 1, 2, 30}, {-30, -2, 0, 1, 30}, {-30, 0, 1, 7}, {-1, 0, 30}, {-30, 0, 1}} {
		if count == 0 {
			continue
		}
		if count == 1 {
			for number := -30; number <= 30; number++ {
				numbers = append(numbers, number)
			}
		}
		for _, p := range allLists(count, numbers) {
			function(p)
		}
		for seed := range 20 {
			function(sample(1, count, 30, seed)[0])
		}
	}
}

func TestPromise93(t *testing.T) {
	eachPolyTable(func(p []int) {
		u, ok := impl.PolyTable(p)
		wantTable(t, call("PolyTable", p), u, ok, polyTableOf(p))
		q, ok := impl.PolyMiddle(u)
		wantList(t, call("PolyMiddle of PolyTable", p), q, ok, append(slices.Clone(p), 1))
	})
}

// P94.

// wantAlike checks PolySame for two squares, and what it tells if it holds.
func wantAlike(t *testing.T, u, w [][]int) bool {
	t.Helper()
	alike := slices.Equal(polynomialOf(u), polynomialOf(w))
	wantSame(t, u, w, alike)
	if !impl.PolySame(u, w) {
		return alike
	}
	wantValue(t, call("ValueOrders", u, w), value(t, u), true, value(t, w))
	a, ok := impl.ValueTrace(u)
	b, _ := impl.ValueTrace(w)
	wantValue(t, call("ValueTrace", u, w), a, ok, b)
	a, ok = impl.PolyPower(u, 3)
	b, _ = impl.PolyPower(w, 3)
	wantValue(t, call("PolyPower", u, w, 3), a, ok, b)
	return alike
}

func TestPromise94(t *testing.T) {
	others, changed := map[int]int{}, map[int]int{}
	for seed, u := range polySquares() {
		n := len(u)
		wantAlike(t, u, u)
		for _, w := range likeSquares(u) {
			wantSame(t, u, w, true)
			if wantAlike(t, u, w) && !same(u, w) {
				others[n]++
			}
		}
		w := partOf(u, 1<<n-1, 1<<n-1)
		w[seed%n][seed/n%n]--
		if within(w) && !wantAlike(t, u, w) {
			changed[n]++
		}
	}
	for _, n := range sides {
		if n > 1 && others[n] < 40 || changed[n] < 20 {
			t.Errorf("of squares of %d rows only %d others have the same polynomial, and %d not", n, others[n], changed[n])
		}
	}
}

// TestPromise94Small has all pairs of small squares, and neighbours among all squares told by numbers.
func TestPromise94Small(t *testing.T) {
	small := [][][]int{{{-1}}, {{0}}, {{1}}, filled(3, 3, 0), unit(3)}
	allSquares(2, func(u [][]int) { small = append(small, u) })
	for _, u := range small {
		for _, w := range small {
			wantAlike(t, u, w)
		}
	}
	before := [][]int{{0}}
	eachPolyTable(func(p []int) {
		u := polyTableOf(p)
		wantAlike(t, before, u)
		before = u
	})
}

// P95.

func TestPromise95(t *testing.T) {
	made := map[int]int{}
	for _, n := range sides {
		for seed := range 120 {
			u, w := sample(n, n, 1+seed%3, seed), sample(n, n, 1+seed/3%2, seed+500)
			if seed%5 == 0 && n > 1 {
				u = lowRank(n, n, 1, seed)
			}
			x, ok := impl.TableMake(u, w)
			y, also := impl.TableMake(w, u)
			if !ok || !also {
				continue
			}
			wantSame(t, x, y, true)
			if !same(x, y) && !same(x, turned(y)) {
				made[n]++
			}
		}
	}
	for _, n := range sides {
		if n > 1 && made[n] < 40 {
			t.Errorf("only %d products of squares of %d rows are made both ways and others", made[n], n)
		}
	}
}

// P96.

func TestPromise96(t *testing.T) {
	beyond := map[int]int{}
	eachPolySquare(func(u [][]int) {
		for k := range 7 {
			v, ok := impl.PolyPower(u, k)
			w, also := impl.PolyPower(turned(u), k)
			if !ok || !also || v != w {
				t.Errorf("%s returned %d, %v, and %d, %v turned", call("PolyPower", u, k), v, ok, w, also)
			}
			wantValue(t, call("PolyPower", u, k), v, ok, traceOf(squarePowerOf(u, k)))
			if !within(squarePowerOf(u, k)) {
				beyond[k]++
			}
		}
		v, ok := impl.PolyPower(u, 0)
		wantValue(t, call("PolyPower", u, 0), v, ok, len(u))
		trace, _ := impl.ValueTrace(u)
		v, ok = impl.PolyPower(u, 1)
		wantValue(t, call("PolyPower", u, 1), v, ok, trace)
	})
	for k := 2; k <= 6; k++ {
		if beyond[k] < 200 {
			t.Errorf("only %d powers of %d are no tables", beyond[k], k)
		}
	}
}

// Memory and arguments.

func TestPolyMemory(t *testing.T) {
	for _, n := range sides {
		u := sample(n, n, 30, n)
		for name, function := range squarePolys {
			checkMemory(t, name, [][][]int{u}, func(a [][][]int) ([][]int, bool) {
				p, ok := function(a[0])
				return [][]int{p}, ok
			})
		}
		numbers := sample(1, n, 30, n)
		checkMemory(t, "PolyTable", [][][]int{numbers}, func(a [][][]int) ([][]int, bool) { return impl.PolyTable(a[0][0]) })
		if n > 4 {
			continue
		}
		for _, p := range [][]int{{0}, {1}, {0, 1}, {0, 0, 1}, {1, 2, 3, 4, 5, 6, 7}} {
			checkMemory(t, "PolyPut", [][][]int{u, {p}}, func(a [][][]int) ([][]int, bool) { return impl.PolyPut(a[0], a[1][0]) })
		}
	}
}

// callPolys calls all functions of the chapter and returns what they return.
func callPolys(u, w [][]int, p []int, x, k int) []any {
	results := []any{}
	for _, name := range []string{"PolyMiddle", "PolySums"} {
		q, ok := squarePolys[name](u)
		results = append(results, q, ok)
	}
	v, ok := impl.PolyAt(p, x)
	results = append(results, v, ok)
	y, ok := impl.PolyPut(u, p)
	results = append(results, y, ok)
	y, ok = impl.PolyTable(p)
	results = append(results, y, ok, impl.PolySame(u, w), impl.PolySame(w, u), impl.PolySame(u, u))
	v, ok = impl.PolyPower(u, k)
	return append(results, v, ok)
}

// TestPolysKeepArguments calls all functions, also for what makes them fail.
func TestPolysKeepArguments(t *testing.T) {
	all := [][][]int{sample(1, 7, 3, 1), sample(2, 3, 3, 1), sample(7, 7, 3, 1), filled(2, 2, 31), nil, {{}}}
	for _, n := range sides {
		all = append(all, sample(n, n, 3, n), filled(n, n, 30))
	}
	for count := range 10 {
		for seed, limit := range []int{1, 30, million, 2 * million} {
			for i, u := range all {
				square, other, list := loose(u), loose(all[(i+1)%len(all)]), loose(sample(1, count, limit, seed))
				before := [][][]int{wholeOf(square), wholeOf(other), wholeOf(list)}
				x, k := (i+count)%21-10, (i+count)%9-1
				if !reflect.DeepEqual(callPolys(square, other, list[0], x, k), callPolys(square, other, list[0], x, k)) {
					t.Errorf("two calls for %v, %v, %v, %d and %d differ", square, other, list, x, k)
				}
				if !reflect.DeepEqual([][][]int{wholeOf(square), wholeOf(other), wholeOf(list)}, before) {
					t.Errorf("an argument of %v has changed", before)
				}
			}
		}
	}
}

// TestPolysOfOneList takes all parts of one list as polynomials, each with the numbers behind it as room.
func TestPolysOfOneList(t *testing.T) {
	list := []int{3, -2, 0, 1, million, -1, 4, 30, -30, 5, 0, 0, 7, -million - 1, 8}
	before := slices.Clone(list)
	for first := range list {
		for end := first; end <= len(list); end++ {
			p := list[first:end]
			v, ok := impl.PolyAt(p, 9)
			if len(p) < 1 || len(p) > 7 || !numbersWithin(p, million) {
				wantNoValue(t, call("PolyAt", p, 9), v, ok)
			} else {
				wantValue(t, call("PolyAt", p, 9), v, ok, atOf(p, 9))
				wantPut(t, [][]int{{1, 2}, {-3, 4}}, p)
			}
			u, ok := impl.PolyTable(p)
			if len(p) < 1 || len(p) > 6 || !numbersWithin(p, 30) {
				wantFailure(t, call("PolyTable", p), u, ok)
			} else {
				wantTable(t, call("PolyTable", p), u, ok, polyTableOf(p))
			}
		}
	}
	wantList(t, "the list of all polynomials", list, true, before)
}

// TestPolysAgain writes over results, and over what they were made of, before the next call.
func TestPolysAgain(t *testing.T) {
	u, list := [][]int{{1, 2}, {3, 4}}, []int{0, 1}
	want := callPolys(u, u, list, 2, 3)
	for range 2 {
		square, numbers := partOf(u, 3, 3), slices.Clone(list)
		p, ok := impl.PolyMiddle(square)
		q, also := impl.PolySums(square)
		put, too := impl.PolyPut(square, numbers)
		x, last := impl.PolyTable(numbers)
		for _, row := range append(square, numbers) {
			scribble(row)
		}
		wantList(t, "PolyMiddle and its square written over", p, ok, []int{-2, -5, 1})
		wantList(t, "PolySums and its square written over", q, also, []int{-2, -5, 1})
		wantTable(t, "PolyPut and its arguments written over", put, too, [][]int{{1, 2}, {3, 4}})
		wantTable(t, "PolyTable and its numbers written over", x, last, [][]int{{0, 0}, {1, -1}})
		for _, row := range append(append(put, x...), p, q) {
			scribble(row)
		}
	}
	if got := callPolys(u, u, list, 2, 3); !reflect.DeepEqual(got, want) {
		t.Errorf("the functions returned %v, and %v after other results were written over", want, got)
	}
}

// TestPolysAtOnce calls all functions at the same time, for the same arguments.
func TestPolysAtOnce(t *testing.T) {
	u, w, p := sample(4, 4, 30, 1), sample(4, 4, 30, 2), []int{1, -2, 3, -4, 5, 30}
	want := callPolys(u, w, p, -9, 6)
	var callers sync.WaitGroup
	for range 16 {
		callers.Go(func() {
			if got := callPolys(u, w, p, -9, 6); !reflect.DeepEqual(got, want) {
				t.Errorf("the functions returned %v; want %v", got, want)
			}
		})
	}
	callers.Wait()
}
