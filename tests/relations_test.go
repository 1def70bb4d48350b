package tests

import (
	"math"
	"reflect"
	"slices"
	"testing"

	"loop.example/tableminors/impl"
)

// coordinateMost is the greatest coordinate.
const coordinateMost = 100000

// told is a call's k, n and list of numbers.
type told struct {
	k, n int
	p    []int
}

// places returns all k and n that coordinates may have.
func places() [][2]int {
	return [][2]int{{1, 2}, {1, 3}, {2, 3}, {1, 4}, {2, 4}, {3, 4}, {1, 5}, {2, 5}, {3, 5}, {4, 5}}
}

// columnsOf returns the columns of a set, in order.
func columnsOf(set int) []int {
	columns := []int{}
	for column := range 6 {
		if set>>column%2 == 1 {
			columns = append(columns, column)
		}
	}
	return columns
}

// signOfList is -1 if an odd number of exchanges puts a list in order.
func signOfList(list []int) int {
	sign := 1
	for i := range list {
		for k := range i {
			if list[k] > list[i] {
				sign = -sign
			}
		}
	}
	return sign
}

// bracket returns the minor of a table, whose coordinates are told, by a list of columns in any order: columns
// that are exchanged turn its sign, and it is 0 if one comes twice.
func bracket(c told, columns ...int) int {
	set := 0
	for _, column := range columns {
		if set>>column%2 == 1 {
			return 0
		}
		set |= 1 << column
	}
	return signOfList(columns) * c.p[slices.Index(setsOf(c.n, c.k), set)]
}

// relatedOf gives each column of a list to a list of fewer ones in turn, with changing signs.
func relatedOf(c told) bool {
	for _, few := range setsOf(c.n, c.k-1) {
		for _, many := range setsOf(c.n, c.k+1) {
			sum, sign := 0, 1
			for _, column := range columnsOf(many) {
				sum += sign * bracket(c, append(columnsOf(few), column)...) * bracket(c, columnsOf(many&^(1<<column))...)
				sign = -sign
			}
			if sum != 0 {
				return false
			}
		}
	}
	return true
}

func coordinatesOf(u [][]int) []int {
	return kthMinorsOf(u, len(u))[0]
}

func coordinatesWithin(p []int) bool {
	return slices.Max(p) <= coordinateMost && slices.Min(p) >= -coordinateMost
}

// hasPlace tells whether a table has so many rows and columns that it may have coordinates.
func hasPlace(u [][]int) bool {
	return len(u) < len(u[0]) && len(u[0]) <= 5
}

// tableOf returns the table of coordinates whose columns of the first set with 1 are those of a unit square, or nil.
func tableOf(c told) [][]int {
	first := slices.Index(c.p, 1)
	if first < 0 {
		return nil
	}
	base := columnsOf(setsOf(c.n, c.k)[first])
	u := filled(c.k, c.n, 0)
	for i := range u {
		for column := range u[i] {
			columns := slices.Clone(base)
			columns[i] = column
			u[i][column] = bracket(c, columns...)
		}
	}
	if !within(u) || !slices.Equal(coordinatesOf(u), c.p) {
		return nil
	}
	return u
}

// otherOf returns the coordinates of the sets of all other columns, with the sign of the columns of both sets in one list.
func otherOf(c told) []int {
	q := []int{}
	for _, set := range setsOf(c.n, c.n-c.k) {
		rest := columnsOf(1<<c.n - 1 - set)
		q = append(q, signOfList(append(columnsOf(set), rest...))*bracket(c, rest...))
	}
	return q
}

// sameOf compares all products of a number of each list.
func sameOf(p, q []int) bool {
	if basesOf(p) == nil || basesOf(q) == nil {
		return false
	}
	for i := range p {
		for k := range q {
			if p[i]*q[k] != p[k]*q[i] {
				return false
			}
		}
	}
	return true
}

// basesOf returns the places of the numbers that are not 0, nil if there are none.
func basesOf(p []int) []int {
	var filled []int
	for i, x := range p {
		if x != 0 {
			filled = append(filled, i)
		}
	}
	return filled
}

func timesList(p []int, f int) []int {
	return timesOf([][]int{p}, f)[0]
}

// flat returns a table of one row as a list.
func flat(width, limit, seed int) []int {
	return sample(1, width, limit, seed)[0]
}

// coordinatesFor returns coordinates of k in n: those of tables, the same with one of them changed by 1, multiples,
// mixed ones, those that are all 0 but one, all the same, and those at the limits.
func coordinatesFor(k, n int) []told {
	number := len(setsOf(n, k))
	all := []told{}
	add := func(p []int) {
		if coordinatesWithin(p) {
			all = append(all, told{k, n, p})
		}
	}
	for _, entry := range []int{0, 1, -1, 2, 31, coordinateMost, -coordinateMost} {
		add(filled(1, number, entry)[0])
		for i := range number {
			p := make([]int, number)
			p[i] = entry
			add(p)
		}
	}
	for seed := range 16 {
		p := coordinatesOf(sample(k, n, 1+seed%4, seed))
		for _, f := range []int{1, -1, 2, -3, 31} {
			add(timesList(p, f))
		}
		for i := range p {
			for _, step := range []int{1, -1} {
				q := slices.Clone(p)
				q[i] += step
				add(q)
			}
		}
		add(flat(number, 1+seed%3, seed+50))
		add(flat(number, coordinateMost, seed))
	}
	return all
}

// allCoordinates calls a function for all samples of coordinates.
func allCoordinates(function func(c told)) {
	for _, place := range places() {
		for _, c := range coordinatesFor(place[0], place[1]) {
			function(c)
		}
	}
}

// allNumbers calls a function for all coordinates of k in n from -limit to limit.
func allNumbers(k, n, limit int, function func(c told)) {
	p := filled(1, len(setsOf(n, k)), -limit)[0]
	for {
		function(told{k, n, slices.Clone(p)})
		i := 0
		for i < len(p) && p[i] == limit {
			p[i] = -limit
			i++
		}
		if i == len(p) {
			return
		}
		p[i]++
	}
}

// noCoordinates returns what is told as coordinates and is none: lists of other lengths, k and n beyond their
// ranges with as many numbers as there are sets, and numbers beyond theirs.
func noCoordinates() []told {
	all := []told{}
	ones := func(number int) []int { return filled(1, number, 1)[0] }
	for _, place := range places() {
		k, n := place[0], place[1]
		number := len(setsOf(n, k))
		for _, length := range []int{0, number - 1, number + 1, 2 * number, 32, 10000} {
			all = append(all, told{k, n, ones(length)})
		}
		all = append(all, told{k, n, nil})
		for i := range number {
			for _, x := range []int{coordinateMost + 1, -coordinateMost - 1, 1 << 32, -1 << 32, math.MaxInt, math.MinInt, math.MinInt + 1} {
				p := ones(number)
				p[i] = x
				all = append(all, told{k, n, p})
			}
		}
		for _, length := range []int{0, 1, number} {
			for _, size := range append([]int{-1, -3, 0, 1}, sizes...) {
				if size < 1 || size >= n {
					all = append(all, told{size, n, ones(length)})
				}
				if size <= k || size > 5 {
					all = append(all, told{k, size, ones(length)}, told{size, size, ones(length)}, told{size - 1, size, ones(length)})
				}
			}
		}
	}
	for n := range 8 {
		all = append(all, told{0, n, ones(1)}, told{n, n, ones(1)}, told{n + 1, n, nil}, told{-1, n, nil})
		for k := 1; n >= 6 && k < n; k++ {
			all = append(all, told{k, n, ones(len(setsOf(n, k)))})
		}
	}
	return all
}

func wantList(t *testing.T, what string, x []int, ok bool, want []int) {
	t.Helper()
	wantTable(t, what, [][]int{x}, ok, [][]int{want})
}

func wantNoList(t *testing.T, what string, x []int, ok bool) {
	t.Helper()
	wantFailure(t, what, [][]int{x}[:min(1, len(x))], ok)
}

func wantHolds(t *testing.T, what string, holds bool, want bool) {
	t.Helper()
	if holds != want {
		t.Errorf("%s returned %v", what, holds)
	}
}

// wantPlaceOf checks PlaceOf for any table.
func wantPlaceOf(t *testing.T, u [][]int) {
	t.Helper()
	p, ok := impl.PlaceOf(u)
	if hasPlace(u) && coordinatesWithin(coordinatesOf(u)) {
		wantList(t, call("PlaceOf", u), p, ok, coordinatesOf(u))
	} else {
		wantNoList(t, call("PlaceOf", u), p, ok)
	}
}

func wantPlaceTable(t *testing.T, c told, want [][]int) {
	t.Helper()
	u, ok := impl.PlaceTable(c.k, c.n, c.p)
	if want == nil {
		wantFailure(t, call("PlaceTable", c), u, ok)
	} else {
		wantTable(t, call("PlaceTable", c), u, ok, want)
	}
}

func wantNoPlaceTimes(t *testing.T, s, u [][]int) {
	t.Helper()
	p, ok := impl.PlaceTimes(s, u)
	wantNoList(t, call("PlaceTimes", len(s), len(u)), p, ok)
}

func other(t *testing.T, c told) told {
	t.Helper()
	p, ok := impl.PlaceOther(c.k, c.n, c.p)
	if !ok {
		t.Errorf("%s failed", call("PlaceOther", c))
		return c
	}
	return told{c.n - c.k, c.n, p}
}

func bases(t *testing.T, c told) []int {
	t.Helper()
	b, ok := impl.PlaceBases(c.k, c.n, c.p)
	if !ok {
		t.Errorf("%s failed", call("PlaceBases", c))
	}
	return b
}

// The rules for all functions: what is told and is no coordinates.

func TestNoCoordinates(t *testing.T) {
	for _, c := range noCoordinates() {
		what := call("of what is none", c.k, c.n, len(c.p))
		wantHolds(t, "PlaceIn "+what, impl.PlaceIn(c.k, c.n, c.p), false)
		wantHolds(t, "PlaceRelated "+what, impl.PlaceRelated(c.k, c.n, c.p), false)
		wantHolds(t, "PlaceSame "+what, impl.PlaceSame(c.k, c.n, c.p, c.p), false)
		u, ok := impl.PlaceTable(c.k, c.n, c.p)
		wantFailure(t, "PlaceTable "+what, u, ok)
		q, ok := impl.PlaceOther(c.k, c.n, c.p)
		wantNoList(t, "PlaceOther "+what, q, ok)
		b, ok := impl.PlaceBases(c.k, c.n, c.p)
		wantNoList(t, "PlaceBases "+what, b, ok)
		if c.k < 1 || c.n > 5 || c.k >= c.n {
			continue
		}
		good := filled(1, len(setsOf(c.n, c.k)), 1)[0]
		wantHolds(t, "PlaceSame "+what+" and coordinates", impl.PlaceSame(c.k, c.n, c.p, good), false)
		wantHolds(t, "PlaceSame of coordinates and "+what, impl.PlaceSame(c.k, c.n, good, c.p), false)
	}
}

// P38.

func TestPromise38(t *testing.T) {
	allCoordinates(func(c told) {
		wantHolds(t, call("PlaceIn", c), impl.PlaceIn(c.k, c.n, c.p), true)
		q, ok := impl.PlaceOther(c.k, c.n, c.p)
		wantList(t, call("PlaceOther", c), q, ok, otherOf(c))
		if len(q) != len(c.p) {
			t.Errorf("%s returned %d numbers", call("PlaceOther", c), len(q))
		}
		wantHolds(t, call("PlaceIn", c.n-c.k, c.n, q), impl.PlaceIn(c.n-c.k, c.n, q), true)
	})
}

func TestPlaceInExamples(t *testing.T) {
	for _, c := range []struct {
		told
		want bool
	}{
		{told{1, 2, []int{0, 0}}, true}, {told{1, 2, []int{0}}, false}, {told{1, 2, []int{0, 0, 0}}, false}, {told{1, 2, nil}, false},
		{told{2, 4, []int{1, 2, 3, 4, 5, 6}}, true}, {told{2, 4, []int{1, 2, 3, 4, 5}}, false}, {told{2, 4, []int{1, 2, 3, 4, 5, 6, 7}}, false},
		{told{1, 5, []int{1, 2, 3, 4, 5}}, true}, {told{4, 5, []int{1, 2, 3, 4, 5}}, true}, {told{5, 5, []int{1}}, false}, {told{0, 5, []int{1}}, false},
		{told{0, 1, []int{1}}, false}, {told{1, 1, []int{1}}, false}, {told{1, 6, []int{1, 2, 3, 4, 5, 6}}, false}, {told{5, 6, []int{1, 2, 3, 4, 5, 6}}, false},
		{told{1, 2, []int{100000, -100000}}, true}, {told{1, 2, []int{100001, 0}}, false}, {told{1, 2, []int{0, -100001}}, false},
		{told{-1, 2, []int{0, 0}}, false}, {told{2, 2, []int{0, 0}}, false}, {told{3, 2, nil}, false}, {told{0, 0, nil}, false}, {told{0, 0, []int{1}}, false},
	} {
		wantHolds(t, call("PlaceIn", c.told), impl.PlaceIn(c.k, c.n, c.p), c.want)
	}
}

// P39.

func TestPromise39(t *testing.T) {
	checked := 0
	for _, u := range append(samples(), minorTables()...) {
		wantPlaceOf(t, u)
		p, ok := impl.PlaceOf(u)
		if !ok {
			continue
		}
		checked++
		wantHolds(t, call("PlaceRelated", len(u), len(u[0]), p), impl.PlaceRelated(len(u), len(u[0]), p), true)
		wantTable(t, call("PlaceOf", u), [][]int{p}, true, minorTable(t, u, len(u)))
	}
	if checked < 100 {
		t.Errorf("only %d tables have coordinates", checked)
	}
}

func TestPlaceOfExamples(t *testing.T) {
	for _, c := range []struct {
		u    [][]int
		want []int
	}{
		{[][]int{{0, 0}}, []int{0, 0}}, {[][]int{{30, -30}}, []int{30, -30}}, {[][]int{{1, 2, 3, 4, 5}}, []int{1, 2, 3, 4, 5}},
		{[][]int{{1, 2, 3}, {4, 5, 6}}, []int{-3, -6, -3}}, {[][]int{{1, 0, -2, 3}, {0, 1, 4, 5}}, []int{1, 4, 2, 5, -3, -22}},
		{[][]int{{1, 0, 0, 2}, {0, 1, 0, 3}, {0, 0, 1, 4}}, []int{1, 4, -3, 2}}, {[][]int{{1, 2, 3, 4}, {2, 4, 6, 8}}, []int{0, 0, 0, 0, 0, 0}},
		{[][]int{{1, 0, 0, 0, 5}, {0, 1, 0, 0, 6}, {0, 0, 1, 0, 7}, {0, 0, 0, 1, 8}}, []int{1, 8, -7, 6, -5}},
	} {
		p, ok := impl.PlaceOf(c.u)
		wantList(t, call("PlaceOf", c.u), p, ok, c.want)
	}
	for _, u := range [][][]int{{{1}}, {{1}, {2}}, unit(2), unit(5), sample(3, 2, 5, 1), sample(5, 4, 5, 1), sample(1, 6, 5, 1), sample(5, 6, 1, 1), sample(6, 6, 1, 1), sample(6, 5, 1, 1), {{31, 0}}, {{0, -31}}} {
		p, ok := impl.PlaceOf(u)
		wantNoList(t, call("PlaceOf", u), p, ok)
	}
	for _, u := range noTables() {
		p, ok := impl.PlaceOf(u)
		wantNoList(t, "PlaceOf of no table", p, ok)
	}
}

// ring returns the square of 4 rows with a list from its first to its last entry and another one beside it, so that
// its value is the product of the first list less that of the second one.
func ring(a, b [4]int) [][]int {
	u := filled(4, 4, 0)
	for i := range u {
		u[i][i] = a[i]
		u[i][(i+1)%4] = b[i]
	}
	return u
}

// wider returns a table with one more column, of 0, at a place.
func wider(u [][]int, place int) [][]int {
	x := [][]int{}
	for _, row := range u {
		x = append(x, slices.Insert(slices.Clone(row), place, 0))
	}
	return x
}

// limitSquares returns squares whose values are at the limits of coordinates on both sides, and just beyond.
func limitSquares() [][][]int {
	all := [][][]int{{{25, -30, 30}, {27, 30, 26}, {-29, 28, 30}}, {{24, -29, 30}, {30, 30, 26}, {-30, 27, 27}}, {{27, -30, 30}, {30, 29, 28}, {-28, 23, 29}}}
	for _, b := range []int{0, 1, -1} {
		all = append(all, ring([4]int{20, 20, 10, 25}, [4]int{1, 1, b, 1}))
	}
	for _, u := range all {
		all = append(all, append([][]int{u[1], u[0]}, u[2:]...))
	}
	return all
}

func TestPlaceOfLimits(t *testing.T) {
	seen := map[int]bool{}
	for _, square := range limitSquares() {
		v := value(t, square)
		seen[v] = true
		for place := range len(square) + 1 {
			u := wider(square, place)
			p, ok := impl.PlaceOf(u)
			if abs(v) <= coordinateMost {
				wantList(t, call("PlaceOf", u), p, ok, coordinatesOf(u))
			} else {
				wantNoList(t, call("PlaceOf", u), p, ok)
			}
		}
	}
	for _, v := range []int{99999, 100000, 100001, 100002, -99999, -100000, -100001, -100002} {
		if !seen[v] {
			t.Errorf("no square has the value %d", v)
		}
	}
	p, ok := impl.PlaceOf(wider(timesOf(unit(4), 30), 2))
	wantNoList(t, "PlaceOf of 30 times unit", p, ok)
}

// P40.

func TestPromise40(t *testing.T) {
	related, others := 0, 0
	check := func(c told) {
		holds := impl.PlaceRelated(c.k, c.n, c.p)
		wantHolds(t, call("PlaceRelated", c), holds, relatedOf(c))
		q := other(t, c)
		wantHolds(t, call("PlaceRelated", q), impl.PlaceRelated(q.k, q.n, q.p), holds)
		wantHolds(t, call("PlaceRelated", c, "with all signs turned"), impl.PlaceRelated(c.k, c.n, timesList(c.p, -1)), holds)
		if holds {
			related++
		} else {
			others++
		}
	}
	allCoordinates(check)
	allNumbers(2, 4, 1, check)
	if related < 500 || others < 500 {
		t.Errorf("only %d are related and %d are none", related, others)
	}
}

func TestPlaceRelatedExamples(t *testing.T) {
	for _, c := range []struct {
		told
		want bool
	}{
		{told{2, 4, []int{1, 0, 0, 0, 0, 1}}, false}, {told{2, 4, []int{1, 0, 0, 0, 0, 0}}, true}, {told{2, 4, []int{0, 0, 0, 0, 0, 0}}, true},
		{told{2, 4, []int{1, 4, 2, 5, -3, -22}}, true}, {told{2, 4, []int{1, 4, 2, 5, -3, -21}}, false}, {told{2, 4, []int{1, 4, 2, 5, -2, -22}}, false},
		{told{2, 4, []int{-2, -8, -4, -10, 6, 44}}, true}, {told{2, 4, []int{1, 1, 1, 1, 1, 1}}, false}, {told{2, 4, []int{1, 1, 1, 1, 0, -1}}, true}, {told{2, 4, []int{1, 1, 1, 1, 0, 1}}, false},
		{told{2, 4, []int{1, 2, 1, 1, 1, 1}}, true}, {told{2, 4, []int{1, 1, 0, 0, 1, 1}}, true}, {told{2, 4, []int{1, -1, 0, 0, 1, 1}}, false}, {told{2, 4, []int{0, 1, 1, 1, 1, 0}}, true},
		{told{1, 5, []int{100000, -100000, 7, 0, 1}}, true}, {told{4, 5, []int{100000, -100000, 7, 0, 1}}, true}, {told{2, 3, []int{3, -100000, 100000}}, true},
		{told{2, 4, []int{100000, 100000, 100000, 100000, 100000, 0}}, true}, {told{2, 4, []int{100000, 100000, 100000, 100000, 99999, 0}}, false},
		{told{2, 5, []int{1, 0, 0, 0, 0, 0, 0, 0, 0, 1}}, false}, {told{3, 5, []int{1, 0, 0, 0, 0, 0, 0, 0, 0, 1}}, false},
	} {
		wantHolds(t, call("PlaceRelated", c.told), impl.PlaceRelated(c.k, c.n, c.p), c.want)
	}
}

// TestPlaceRelatedRows has coordinates of one row, and of all rows but one: these are always related.
func TestPlaceRelatedRows(t *testing.T) {
	for n := 2; n <= 5; n++ {
		for seed := range 40 {
			p := flat(n, []int{1, 3, coordinateMost}[seed%3], seed)
			wantHolds(t, call("PlaceRelated", 1, n, p), impl.PlaceRelated(1, n, p), true)
			wantHolds(t, call("PlaceRelated", n-1, n, p), impl.PlaceRelated(n-1, n, p), true)
		}
	}
}

// P41.

func TestPromise41(t *testing.T) {
	made, none := 0, 0
	check := func(c told) {
		wantPlaceTable(t, c, tableOf(c))
		u, ok := impl.PlaceTable(c.k, c.n, c.p)
		if !ok {
			none++
			return
		}
		made++
		p, ok := impl.PlaceOf(u)
		wantList(t, call("PlaceOf", u), p, ok, c.p)
		wantHolds(t, call("PlaceRelated", c), impl.PlaceRelated(c.k, c.n, c.p), true)
		wantHolds(t, call("TableIn", u), impl.TableIn(u), true)
	}
	allCoordinates(check)
	allNumbers(2, 4, 1, check)
	if made < 500 || none < 500 {
		t.Errorf("only %d have a table and %d have none", made, none)
	}
}

// TestPlaceTableUnits begins with tables that have the columns of a unit square at each set of columns.
func TestPlaceTableUnits(t *testing.T) {
	found := 0
	for _, place := range places() {
		k, n := place[0], place[1]
		for _, base := range setsOf(n, k) {
			for seed := range 8 {
				u := sample(k, n, []int{1, 5, 30}[seed%3], seed+base)
				for i := range u {
					for at, column := range columnsOf(base) {
						u[i][column] = unit(k)[i][at]
					}
				}
				c := told{k, n, coordinatesOf(u)}
				if !coordinatesWithin(c.p) {
					continue
				}
				if slices.Index(c.p, 1) == slices.Index(setsOf(n, k), base) {
					found++
					wantPlaceTable(t, c, u)
				} else {
					wantPlaceTable(t, c, tableOf(c))
				}
			}
		}
	}
	if found < 100 {
		t.Errorf("only %d tables have no earlier set", found)
	}
}

func TestPlaceTableExamples(t *testing.T) {
	for _, c := range []struct {
		told
		want [][]int
	}{
		{told{1, 2, []int{1, 5}}, [][]int{{1, 5}}}, {told{1, 2, []int{5, 1}}, [][]int{{5, 1}}}, {told{1, 2, []int{1, 1}}, [][]int{{1, 1}}}, {told{1, 2, []int{0, 1}}, [][]int{{0, 1}}},
		{told{1, 2, []int{0, 0}}, nil}, {told{1, 2, []int{-1, 5}}, nil}, {told{1, 2, []int{2, 4}}, nil}, {told{2, 4, []int{0, 0, 0, 0, 0, 0}}, nil},
		{told{1, 2, []int{1, 30}}, [][]int{{1, 30}}}, {told{1, 2, []int{1, 31}}, nil}, {told{1, 2, []int{-30, 1}}, [][]int{{-30, 1}}}, {told{1, 2, []int{-31, 1}}, nil},
		{told{1, 2, []int{1, 100000}}, nil}, {told{1, 5, []int{3, 0, -30, 30, 1}}, [][]int{{3, 0, -30, 30, 1}}},
		{told{2, 3, []int{1, 30, -30}}, [][]int{{1, 0, 30}, {0, 1, 30}}}, {told{2, 3, []int{1, 31, 0}}, nil}, {told{2, 3, []int{1, 0, -31}}, nil},
		{told{2, 3, []int{5, 1, 7}}, [][]int{{1, 7, 0}, {0, 5, 1}}}, {told{2, 3, []int{5, 7, 1}}, [][]int{{7, 1, 0}, {-5, 0, 1}}}, {told{2, 3, []int{-1, -1, -1}}, nil},
		{told{2, 4, []int{1, 4, 2, 5, -3, -22}}, [][]int{{1, 0, -2, 3}, {0, 1, 4, 5}}}, {told{2, 4, []int{1, 4, 2, 5, -3, -21}}, nil}, {told{2, 4, []int{1, 0, 0, 0, 0, 1}}, nil},
		{told{2, 4, []int{0, 0, 0, 0, 0, 1}}, [][]int{{0, 0, 1, 0}, {0, 0, 0, 1}}}, {told{2, 4, []int{1, 30, -30, 30, 0, 900}}, [][]int{{1, 0, 30, 0}, {0, 1, 30, 30}}},
		{told{3, 4, []int{1, 4, -3, 2}}, [][]int{{1, 0, 0, 2}, {0, 1, 0, 3}, {0, 0, 1, 4}}}, {told{4, 5, []int{1, 8, -7, 6, -5}}, besideOnes([]int{5, 6, 7, 8})},
	} {
		wantPlaceTable(t, c.told, c.want)
	}
	// This table has the coordinates [1 31 -32], but the one with a unit square in its first columns would have an entry 31.
	p, ok := impl.PlaceOf([][]int{{1, -1, 1}, {-1, 2, 30}})
	wantList(t, "PlaceOf", p, ok, []int{1, 31, -32})
	wantPlaceTable(t, told{2, 3, p}, nil)
}

// besideOnes returns the unit square with one more column behind it.
func besideOnes(column []int) [][]int {
	u := unit(len(column))
	for i := range u {
		u[i] = append(u[i], column[i])
	}
	return u
}

// P42.

func TestPromise42(t *testing.T) {
	check := func(c told) {
		back := other(t, other(t, c))
		want := c.p
		if c.k*(c.n-c.k)%2 == 1 {
			want = timesList(c.p, -1)
		}
		wantList(t, call("PlaceOther, two times,", c), back.p, true, want)
	}
	allCoordinates(check)
	allNumbers(2, 4, 1, check)
}

func TestPlaceOtherExamples(t *testing.T) {
	for _, c := range []struct {
		told
		want []int
	}{
		{told{1, 2, []int{3, 5}}, []int{5, -3}}, {told{1, 2, []int{0, 0}}, []int{0, 0}}, {told{1, 3, []int{1, 2, 3}}, []int{3, -2, 1}}, {told{2, 3, []int{1, 2, 3}}, []int{3, -2, 1}},
		{told{2, 4, []int{1, 2, 3, 4, 5, 6}}, []int{6, -5, 4, 3, -2, 1}}, {told{1, 4, []int{1, 2, 3, 4}}, []int{4, -3, 2, -1}}, {told{3, 4, []int{1, 2, 3, 4}}, []int{4, -3, 2, -1}},
		{told{1, 5, []int{1, 2, 3, 4, 5}}, []int{5, -4, 3, -2, 1}}, {told{4, 5, []int{100000, -100000, 0, 1, 2}}, []int{2, -1, 0, 100000, 100000}},
	} {
		q, ok := impl.PlaceOther(c.k, c.n, c.p)
		wantList(t, call("PlaceOther", c.told), q, ok, c.want)
	}
}

// P43.

func TestPromise43(t *testing.T) {
	same, others := 0, 0
	check := func(c, d told) {
		holds := impl.PlaceSame(c.k, c.n, c.p, d.p)
		wantHolds(t, call("PlaceSame", c, d.p), holds, sameOf(c.p, d.p))
		wantHolds(t, call("PlaceSame", d, c.p), impl.PlaceSame(c.k, c.n, d.p, c.p), holds)
		if !holds {
			others++
			return
		}
		same++
		if !slices.Equal(bases(t, c), bases(t, d)) {
			t.Errorf("%s: the bases are %v and %v", call("PlaceSame", c, d.p), bases(t, c), bases(t, d))
		}
		wantHolds(t, call("PlaceRelated", d), impl.PlaceRelated(c.k, c.n, d.p), impl.PlaceRelated(c.k, c.n, c.p))
	}
	for _, place := range places() {
		all := coordinatesFor(place[0], place[1])
		for i, c := range all {
			for k := i % 3; k < len(all); k += 3 {
				check(c, all[k])
			}
			for _, f := range []int{1, -1, 2, -7} {
				d := told{c.k, c.n, timesList(c.p, f)}
				if coordinatesWithin(d.p) {
					check(c, d)
				}
			}
		}
	}
	if same < 1000 || others < 1000 {
		t.Errorf("only %d are the same and %d are others", same, others)
	}
}

func TestPlaceSameExamples(t *testing.T) {
	for _, c := range []struct {
		told
		q    []int
		want bool
	}{
		{told{1, 2, []int{1, 2}}, []int{1, 2}, true}, {told{1, 2, []int{1, 2}}, []int{-1, -2}, true}, {told{1, 2, []int{1, 2}}, []int{1, -2}, false}, {told{1, 2, []int{2, 4}}, []int{-3, -6}, true},
		{told{1, 2, []int{0, 0}}, []int{0, 0}, false}, {told{1, 2, []int{0, 0}}, []int{1, 2}, false}, {told{1, 2, []int{1, 2}}, []int{0, 0}, false},
		{told{1, 2, []int{0, 1}}, []int{1, 0}, false}, {told{1, 2, []int{1, 0}}, []int{0, 1}, false}, {told{1, 2, []int{0, 1}}, []int{0, -100000}, true}, {told{1, 2, []int{1, 1}}, []int{0, 1}, false}, {told{1, 2, []int{0, 1}}, []int{1, 1}, false},
		{told{2, 4, []int{1, 0, 0, 0, 0, 1}}, []int{-2, 0, 0, 0, 0, -2}, true}, {told{2, 4, []int{1, 0, 0, 0, 0, 1}}, []int{2, 0, 0, 0, 0, -2}, false},
		{told{1, 2, []int{100000, -99999}}, []int{-100000, 99999}, true}, {told{1, 2, []int{100000, -99999}}, []int{99999, -99998}, false},
		{told{1, 2, []int{1, 2}}, []int{1, 2, 3}, false}, {told{1, 2, []int{1, 2}}, []int{1}, false}, {told{1, 2, []int{1, 2}}, nil, false}, {told{1, 3, []int{1, 2}}, []int{1, 2, 3}, false},
		{told{1, 2, []int{50000, 1}}, []int{150000, 3}, false}, {told{1, 2, []int{-150000, -3}}, []int{50000, 1}, false},
	} {
		wantHolds(t, call("PlaceSame", c.told, c.q), impl.PlaceSame(c.k, c.n, c.p, c.q), c.want)
	}
}

// P44.

func TestPromise44(t *testing.T) {
	related := 0
	check := func(c told) {
		b, ok := impl.PlaceBases(c.k, c.n, c.p)
		want := []int{}
		for _, i := range basesOf(c.p) {
			want = append(want, setsOf(c.n, c.k)[i])
		}
		wantList(t, call("PlaceBases", c), b, ok, want)
		if !impl.PlaceRelated(c.k, c.n, c.p) {
			return
		}
		related++
		for _, one := range b {
			for _, two := range b {
				for _, column := range columnsOf(one &^ two) {
					if !slices.ContainsFunc(columnsOf(two&^one), func(place int) bool { return slices.Contains(b, one&^(1<<column)|1<<place) }) {
						t.Errorf("%s is %v; no column of %d makes a base in place of %d in %d", call("PlaceBases", c), b, two, column, one)
					}
				}
			}
		}
	}
	allCoordinates(check)
	allNumbers(2, 4, 1, check)
	allNumbers(3, 4, 2, check)
	if related < 1000 {
		t.Errorf("only %d are related", related)
	}
}

func TestPlaceBasesExamples(t *testing.T) {
	for _, c := range []struct {
		told
		want []int
	}{
		{told{1, 2, []int{0, 0}}, nil}, {told{1, 2, []int{0, -1}}, []int{2}}, {told{1, 2, []int{100000, -100000}}, []int{1, 2}}, {told{1, 5, []int{1, 0, 1, 0, 1}}, []int{1, 4, 16}},
		{told{2, 4, []int{1, 2, 3, 4, 5, 6}}, []int{3, 5, 6, 9, 10, 12}}, {told{2, 4, []int{0, 0, 7, 0, 0, -7}}, []int{6, 12}}, {told{2, 4, []int{0, 0, 0, 0, 0, 0}}, nil},
		{told{4, 5, []int{1, 1, 1, 1, 1}}, []int{15, 23, 27, 29, 30}}, {told{3, 5, []int{0, 0, 0, 0, 0, 0, 0, 0, 0, 1}}, []int{28}},
	} {
		b, ok := impl.PlaceBases(c.k, c.n, c.p)
		wantList(t, call("PlaceBases", c.told), b, ok, c.want)
	}
}

// P45.

func TestPromise45(t *testing.T) {
	made, greater := 0, 0
	for _, place := range places() {
		k, n := place[0], place[1]
		for seed := range 60 {
			s, u := sample(k, k, 1+seed%5, seed), sample(k, n, []int{1, 2, 4, 10, 30}[seed/2%5], seed+30)
			if seed%10 == 9 {
				s[k-1] = timesList(s[0], k-1)
			}
			want := timesList(coordinatesOf(u), valueOf(s))
			p, ok := impl.PlaceTimes(s, u)
			if !coordinatesWithin(coordinatesOf(u)) || !coordinatesWithin(want) {
				wantNoList(t, call("PlaceTimes", s, u), p, ok)
				continue
			}
			wantList(t, call("PlaceTimes", s, u), p, ok, want)
			x, ok := impl.TableMake(s, u)
			if !ok {
				greater++
				continue
			}
			made++
			q, ok := impl.PlaceOf(x)
			wantList(t, call("PlaceOf", x), q, ok, p)
		}
	}
	if made < 100 || greater < 100 {
		t.Errorf("only %d products are tables and %d are none", made, greater)
	}
}

func TestPlaceTimesExamples(t *testing.T) {
	for _, c := range []struct {
		s, u [][]int
		want []int
	}{
		{[][]int{{-3}}, [][]int{{1, 2}}, []int{-3, -6}}, {[][]int{{30}}, [][]int{{30, -30}}, []int{900, -900}}, {[][]int{{0}}, [][]int{{30, -30}}, []int{0, 0}},
		{[][]int{{1, 2}, {3, 4}}, [][]int{{1, 2, 3}, {4, 5, 6}}, []int{6, 12, 6}}, {[][]int{{0, 1}, {1, 0}}, [][]int{{1, 0, 2, 3}, {0, 1, 4, 5}}, []int{-1, -4, 2, -5, 3, 2}},
		{[][]int{{20, 0}, {0, 20}}, [][]int{{25, 0, 0}, {0, 10, 0}}, []int{100000, 0, 0}}, {[][]int{{0, 20}, {20, 0}}, [][]int{{25, 0, 0}, {0, 10, 0}}, []int{-100000, 0, 0}},
		{[][]int{{20, 0}, {0, 20}}, [][]int{{25, 1, 0}, {-1, 10, 0}}, nil}, {[][]int{{0, 20}, {20, 0}}, [][]int{{25, 1, 0}, {-1, 10, 0}}, nil},
		{[][]int{{11, 0, 0}, {0, 1, 0}, {0, 0, 1}}, [][]int{{30, 7, 0, 0}, {0, 30, 13, 0}, {1, 0, 10, 0}}, nil}, {[][]int{{0, 11, 0}, {1, 0, 0}, {0, 0, 1}}, [][]int{{30, 7, 0, 0}, {0, 30, 13, 0}, {1, 0, 10, 0}}, nil},
		{[][]int{{10, 0, 0}, {0, 1, 0}, {0, 0, 1}}, [][]int{{30, 7, 0, 0}, {0, 30, 13, 0}, {1, 0, 10, 0}}, []int{90910, 0, 0, 0}},
	} {
		p, ok := impl.PlaceTimes(c.s, c.u)
		if c.want == nil {
			wantNoPlaceTimes(t, c.s, c.u)
		} else {
			wantList(t, call("PlaceTimes", c.s, c.u), p, ok, c.want)
		}
	}
}

// TestPlaceTimesLimits fails as PlaceOf does also where the value of the square would make all coordinates 0.
func TestPlaceTimesLimits(t *testing.T) {
	for _, square := range limitSquares() {
		n := len(square)
		u := wider(square, n)
		last := filled(1, n+1, 0)[0]
		last[0] = value(t, square)
		for _, f := range []int{0, 1, -1} {
			s := unit(n)
			s[0][0] = f
			p, ok := impl.PlaceTimes(s, u)
			if abs(last[0]) <= coordinateMost {
				wantList(t, call("PlaceTimes", s, u), p, ok, timesList(last, f))
			} else {
				wantNoList(t, call("PlaceTimes", s, u), p, ok)
			}
		}
		p, ok := impl.PlaceTimes(square, wider(unit(n), n))
		if abs(last[0]) <= coordinateMost {
			wantList(t, call("PlaceTimes", square, "unit"), p, ok, last)
		} else {
			wantNoList(t, call("PlaceTimes", square, "unit"), p, ok)
		}
	}
}

func TestPlaceTimesOthers(t *testing.T) {
	for _, u := range noTables() {
		wantNoPlaceTimes(t, u, [][]int{{1, 2}})
		wantNoPlaceTimes(t, [][]int{{1}}, u)
		wantNoPlaceTimes(t, unit(3), u)
		wantNoPlaceTimes(t, u, u)
	}
	for _, height := range sides {
		for _, width := range sides {
			for _, rows := range sides {
				for _, columns := range sides {
					s, u := sample(height, width, 1, 3), sample(rows, columns, 1, 4)
					if height == width && height == rows && hasPlace(u) {
						p, ok := impl.PlaceTimes(s, u)
						wantList(t, call("PlaceTimes", s, u), p, ok, timesList(coordinatesOf(u), valueOf(s)))
					} else {
						wantNoPlaceTimes(t, s, u)
					}
				}
			}
		}
	}
}

// Memory and arguments.

func TestPlaceMemory(t *testing.T) {
	list := func(x []int, ok bool) ([][]int, bool) { return [][]int{x}, ok }
	for _, place := range places() {
		k, n := place[0], place[1]
		u := sample(k, n, 3, k+n)
		for i := range k {
			for column := range k {
				u[i][column] = unit(k)[i][column]
			}
		}
		p := [][][]int{{coordinatesOf(u)}}
		checkMemory(t, "PlaceOf", [][][]int{u}, func(a [][][]int) ([][]int, bool) { return list(impl.PlaceOf(a[0])) })
		checkMemory(t, "PlaceTable", p, func(a [][][]int) ([][]int, bool) { return impl.PlaceTable(k, n, a[0][0]) })
		checkMemory(t, "PlaceOther", p, func(a [][][]int) ([][]int, bool) { return list(impl.PlaceOther(k, n, a[0][0])) })
		checkMemory(t, "PlaceBases", p, func(a [][][]int) ([][]int, bool) { return list(impl.PlaceBases(k, n, a[0][0])) })
		checkMemory(t, "PlaceTimes", [][][]int{unit(k), u}, func(a [][][]int) ([][]int, bool) { return list(impl.PlaceTimes(a[0], a[1])) })
	}
}

// callPlaces calls all functions of the chapter for what is told and returns what they return.
func callPlaces(k, n int, p, q []int, s, u [][]int) []any {
	results := []any{impl.PlaceIn(k, n, p), impl.PlaceRelated(k, n, p), impl.PlaceSame(k, n, p, q), impl.PlaceSame(k, n, q, p)}
	add := func(x ...any) { results = append(results, x...) }
	x, ok := impl.PlaceTable(k, n, p)
	add(x, ok)
	list, ok := impl.PlaceOther(k, n, p)
	add(list, ok)
	list, ok = impl.PlaceBases(k, n, p)
	add(list, ok)
	list, ok = impl.PlaceOf(u)
	add(list, ok)
	list, ok = impl.PlaceTimes(s, u)
	add(list, ok)
	return results
}

// TestPlacesKeepArguments calls all functions, also for what makes them fail.
func TestPlacesKeepArguments(t *testing.T) {
	all := noCoordinates()
	allCoordinates(func(c told) { all = append(all, c) })
	tables := samples()
	for i, c := range all {
		if len(c.p) > 100 {
			continue
		}
		u := tables[i*7%len(tables)]
		args := [][][]int{loose([][]int{c.p, timesList(c.p, -2)}), loose(sample(len(u), len(u), 2, i)), loose(u)}
		before := [][][]int{}
		for _, a := range args {
			before = append(before, wholeOf(a))
		}
		first := callPlaces(c.k, c.n, args[0][0], args[0][1], args[1], args[2])
		if second := callPlaces(c.k, c.n, args[0][0], args[0][1], args[1], args[2]); !reflect.DeepEqual(first, second) {
			t.Errorf("two calls for %v differ", c)
		}
		for k, a := range args {
			if !reflect.DeepEqual(wholeOf(a), before[k]) {
				t.Fatalf("an argument has changed: %v of %v", before[k], c)
			}
		}
	}
}

// TestPlacesOfSharedMemory tells one list as both coordinates, and one row as several rows.
func TestPlacesOfSharedMemory(t *testing.T) {
	p := []int{1, 4, 2, 5, -3, -22}
	wantHolds(t, call("PlaceSame", p), impl.PlaceSame(2, 4, p, p), true)
	wantHolds(t, call("PlaceSame", p[:3]), impl.PlaceSame(1, 3, p[:3], p[3:]), false)
	row := []int{2, -3, 1}
	q, ok := impl.PlaceOf([][]int{row, row})
	wantList(t, "PlaceOf of one row twice", q, ok, []int{0, 0, 0})
	q, ok = impl.PlaceTimes([][]int{row[:2], row[:2]}, [][]int{row, row})
	wantList(t, "PlaceTimes of one row twice", q, ok, []int{0, 0, 0})
	wantList(t, "one row", row, true, []int{2, -3, 1})
}
