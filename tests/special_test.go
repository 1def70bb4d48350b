package tests

import (
	"math"
	"reflect"
	"slices"
	"testing"

	"loop.example/tableminors/impl"
)

// listFunctions and listValues are the functions that take a list of numbers alone, by their names; sideFunctions and
// sideValues those that take a number of rows alone.
var (
	listFunctions = map[string]func([]int) ([][]int, bool){"KnownPowers": impl.KnownPowers, "KnownTurns": impl.KnownTurns}
	listValues    = map[string]func([]int) (int, bool){"KnownPowersValue": impl.KnownPowersValue, "KnownTurnsSum": impl.KnownTurnsSum}
	sideFunctions = map[string]func(int) ([][]int, bool){"KnownDivisors": impl.KnownDivisors, "KnownLeast": impl.KnownLeast}
	sideValues    = map[string]func(int) (int, bool){"KnownDivisorsValue": impl.KnownDivisorsValue}
)

// powersOf makes each power of the one of 1 less.
func powersOf(x []int) [][]int {
	u := filled(len(x), len(x), 1)
	for i := range u {
		for k := 1; k < len(x); k++ {
			u[i][k] = u[i][k-1] * x[i]
		}
	}
	return u
}

func onesOf(n, a, b int) [][]int {
	return sums(filled(n, n, b), timesOf(unit(n), a-b))
}

// divisorsOf tries all numbers.
func divisorsOf(n int) [][]int {
	u := filled(n, n, 1)
	for i := range u {
		for k := range u[i] {
			for d := 1; d <= n; d++ {
				if (i+1)%d == 0 && (k+1)%d == 0 {
					u[i][k] = d
				}
			}
		}
	}
	return u
}

// leastOf adds 1 where row and column are both a number at least, for each number of a row.
func leastOf(n int) [][]int {
	u := filled(n, n, 0)
	for least := range n {
		u = sums(u, ones(n, n, func(i, k int) bool { return i >= least && k >= least }))
	}
	return u
}

// sumsOf puts each number of a list at all places of its sum.
func sumsOf(n int, x []int) [][]int {
	u := filled(n, n, 0)
	for sum, number := range x {
		for i := range u {
			if 0 <= sum-i && sum-i < n {
				u[i][sum-i] = number
			}
		}
	}
	return u
}

// turnsOf makes each row of the one ahead of it, its last number being brought to the front.
func turnsOf(x []int) [][]int {
	n := len(x)
	u := [][]int{slices.Clone(x)}
	for i := 1; i < n; i++ {
		u = append(u, append([]int{u[i-1][n-1]}, u[i-1][:n-1]...))
	}
	return u
}

func totalOf(x []int) int {
	total := 0
	for _, number := range x {
		total += number
	}
	return total
}

// hasSame tells whether a number comes twice.
func hasSame(x []int) bool {
	for i, number := range x {
		if slices.Contains(x[:i], number) {
			return true
		}
	}
	return false
}

func ascends(x []int) bool {
	return slices.IsSorted(x) && !hasSame(x)
}

// numbersWithin tells whether no number is beyond a limit.
func numbersWithin(x []int, most int) bool {
	return slices.Min(x) >= -most && slices.Max(x) <= most
}

// eachKnownList calls a function for lists of 1 to 6 numbers within the limits of entries: numbers that are 0, that are
// the same, that ascend and that don't, and those of which powers lead out of the limits.
func eachKnownList(function func(x []int)) {
	var single []int
	for entry := -30; entry <= 30; entry++ {
		single = append(single, entry)
	}
	numbers := [][]int{nil, single, {-30, -10, -9, -8, -5, -1, 0, 1, 2, 5, 6, 9, 10, 29, 30}, {-6, -5, -4, -1, 0, 1, 2, 3, 5, 6}, {-4, -3, -1, 0, 2, 3, 4}, {-3, -1, 0, 1, 2}, {-1, 0, 1, 2}}
	for count := 1; count <= 6; count++ {
		for _, x := range allLists(count, numbers[count]) {
			function(x)
		}
		for _, limit := range []int{1, 2, 3, 5, 9, 10, 30} {
			for seed := range 40 {
				function(sample(1, count, limit, seed)[0])
			}
		}
		for _, number := range []int{-30, -10, -9, 9, 10, 30} {
			function(slices.Repeat([]int{number}, count))
		}
		for _, base := range [][]int{{-9, -4, 0, 1, 5, 9}, {-3, -2, -1, 1, 2, 3}, {1, 2, 3, 4, 5, 6}} {
			for _, list := range listsBySides[count] {
				x := make([]int, count)
				for i, place := range list {
					x[i] = base[place]
				}
				function(x)
			}
		}
	}
}

// noKnownLists returns lists of no numbers and of too many.
func noKnownLists() [][]int {
	all := [][]int{nil, {}}
	for _, count := range []int{7, 8, 11, 12, 13, 31, 36, 64, 1000, 100000} {
		all = append(all, make([]int, count), slices.Repeat([]int{1}, count), slices.Repeat([]int{-30}, count))
	}
	return append(all, []int{1, 2, 3, 4, 5, 6, 7}, []int{-3, -2, -1, 0, 1, 2, 3})
}

// eachBeyond calls a function for lists of which one number, at each place, is beyond a limit, and all others are not.
func eachBeyond(most int, function func(x []int)) {
	for count := 1; count <= 6; count++ {
		for place := range count {
			for _, number := range []int{most + 1, -most - 1, most + 2, 1000, 1 << 32, -1 << 32, 1 << 62, math.MaxInt, math.MinInt, math.MinInt + 1} {
				for _, others := range []int{0, 1} {
					x := slices.Repeat([]int{others}, count)
					x[place] = number
					function(x)
				}
			}
		}
	}
}

// beyondEntries are numbers that no entry may be.
var beyondEntries = []int{31, -31, 32, 60, -900, 1 << 32, 1<<32 + 1, -1 << 32, 1 << 62, math.MaxInt, math.MinInt, math.MinInt + 1}

// noKnownSides are 0, numbers below it and those beyond the most rows.
var noKnownSides = append(beyond(6), 0, 12, 30, 36)

// eachOnes calls a function for all squares of ones, by their rows and both numbers.
func eachOnes(function func(n, a, b int)) {
	for _, n := range sides {
		for a := -30; a <= 30; a++ {
			for b := -30; b <= 30; b++ {
				function(n, a, b)
			}
		}
	}
}

// eachSums calls a function for lists of the numbers of a square of sums, by their rows.
func eachSums(function func(n int, x []int)) {
	for n, numbers := range map[int][]int{1: {-30, -7, -1, 0, 1, 2, 30}, 2: {-30, -2, -1, 0, 1, 3, 30}, 3: {-30, -1, 0, 2}, 4: {-1, 0, 30}} {
		for _, x := range allLists(2*n-1, numbers) {
			function(n, x)
		}
	}
	for _, n := range sides {
		for _, limit := range []int{1, 5, 30} {
			for seed := range 60 {
				function(n, sample(1, 2*n-1, limit, seed)[0])
			}
		}
		steps := make([]int, 2*n-1)
		for i := range steps {
			steps[i] = i + 1
		}
		function(n, steps)
		for _, number := range []int{-30, 0, 1, 30} {
			function(n, slices.Repeat([]int{number}, 2*n-1))
		}
		for place := range 2*n - 1 {
			single := make([]int, 2*n-1)
			single[place] = 30
			function(n, single)
			single[place] = -30
			function(n, single)
		}
	}
}

// wantOnes checks both functions of such squares for any arguments.
func wantOnes(t *testing.T, n, a, b int) {
	t.Helper()
	x, ok := impl.KnownOnes(n, a, b)
	v, also := impl.KnownOnesValue(n, a, b)
	if n < 1 || n > 6 || a < -30 || a > 30 || b < -30 || b > 30 {
		wantFailure(t, call("KnownOnes", n, a, b), x, ok)
		wantNoValue(t, call("KnownOnesValue", n, a, b), v, also)
		return
	}
	wantTable(t, call("KnownOnes", n, a, b), x, ok, onesOf(n, a, b))
	wantValue(t, call("KnownOnesValue", n, a, b), v, also, valueOf(onesOf(n, a, b)))
}

// wantDivides reports a divisor, not 0, that does not divide a number.
func wantDivides(t *testing.T, what string, divisor, number int) {
	t.Helper()
	if divisor == 0 || number%divisor != 0 {
		t.Errorf("%s: %d does not divide %d", what, divisor, number)
	}
}

// The rules for all functions.

// TestNoKnownLists calls the functions of a list alone for lists of no numbers and of too many.
func TestNoKnownLists(t *testing.T) {
	for _, list := range noKnownLists() {
		for name, function := range listFunctions {
			x, ok := function(list)
			wantFailure(t, call(name, "of", len(list), "numbers"), x, ok)
		}
		for name, function := range listValues {
			v, ok := function(list)
			wantNoValue(t, call(name, "of", len(list), "numbers"), v, ok)
		}
	}
}

// TestNoKnownNumbers calls them for numbers beyond the limits, also where no power of them is an entry.
func TestNoKnownNumbers(t *testing.T) {
	eachBeyond(30, func(list []int) {
		for name, function := range listFunctions {
			x, ok := function(list)
			wantFailure(t, call(name, list), x, ok)
		}
		for name, function := range listValues {
			v, ok := function(list)
			wantNoValue(t, call(name, list), v, ok)
		}
	})
	eachBeyond(9, func(list []int) {
		v, ok := impl.KnownPowersValue(list)
		wantNoValue(t, call("KnownPowersValue", list), v, ok)
	})
}

// TestNoKnownSides calls the functions of a number of rows for others.
func TestNoKnownSides(t *testing.T) {
	for _, n := range noKnownSides {
		for name, function := range sideFunctions {
			x, ok := function(n)
			wantFailure(t, call(name, n), x, ok)
		}
		for name, function := range sideValues {
			v, ok := function(n)
			wantNoValue(t, call(name, n), v, ok)
		}
		for _, a := range []int{-30, -1, 0, 1, 30, 31} {
			wantOnes(t, n, a, 1)
			wantOnes(t, n, a, a)
		}
		for count := range 16 {
			x, ok := impl.KnownSums(n, make([]int, count))
			wantFailure(t, call("KnownSums", n, count), x, ok)
		}
	}
}

// TestKnownOneRow has squares of one row, for all numbers that they may be told by.
func TestKnownOneRow(t *testing.T) {
	for a := -33; a <= 33; a++ {
		rows, list, isEntry := [][]int{{a}}, []int{a}, a >= -30 && a <= 30
		powers, ok := impl.KnownPowers(list)
		turns, also := impl.KnownTurns(list)
		added, too := impl.KnownSums(1, list)
		total, told := impl.KnownTurnsSum(list)
		if isEntry {
			wantTable(t, call("KnownPowers", list), powers, ok, [][]int{{1}})
			wantTable(t, call("KnownTurns", list), turns, also, rows)
			wantTable(t, call("KnownSums", 1, list), added, too, rows)
			wantValue(t, call("KnownTurnsSum", list), total, told, a)
		} else {
			wantFailure(t, call("KnownPowers", list), powers, ok)
			wantFailure(t, call("KnownTurns", list), turns, also)
			wantFailure(t, call("KnownSums", 1, list), added, too)
			wantNoValue(t, call("KnownTurnsSum", list), total, told)
		}
		v, ok := impl.KnownPowersValue(list)
		if a >= -9 && a <= 9 {
			wantValue(t, call("KnownPowersValue", list), v, ok, 1)
		} else {
			wantNoValue(t, call("KnownPowersValue", list), v, ok)
		}
		for b := -33; b <= 33; b++ {
			x, ok := impl.KnownOnes(1, a, b)
			v, also := impl.KnownOnesValue(1, a, b)
			if isEntry && b >= -30 && b <= 30 {
				wantTable(t, call("KnownOnes", 1, a, b), x, ok, rows)
				wantValue(t, call("KnownOnesValue", 1, a, b), v, also, a)
			} else {
				wantFailure(t, call("KnownOnes", 1, a, b), x, ok)
				wantNoValue(t, call("KnownOnesValue", 1, a, b), v, also)
			}
		}
	}
	for name, function := range sideFunctions {
		x, ok := function(1)
		wantTable(t, call(name, 1), x, ok, [][]int{{1}})
	}
	v, ok := impl.KnownDivisorsValue(1)
	wantValue(t, "KnownDivisorsValue of 1", v, ok, 1)
}

// P72.

func TestPromise72(t *testing.T) {
	both, tables, values := map[int]int{}, map[int]int{}, map[int]int{}
	eachKnownList(func(list []int) {
		rows, n := powersOf(list), len(list)
		x, ok := impl.KnownPowers(list)
		wantIf(t, call("KnownPowers", list), x, ok, rows)
		v, also := impl.KnownPowersValue(list)
		if numbersWithin(list, 9) {
			wantValue(t, call("KnownPowersValue", list), v, also, valueOf(rows))
		} else {
			wantNoValue(t, call("KnownPowersValue", list), v, also)
		}
		switch {
		case ok && also:
			both[n]++
			wantValue(t, call("ValueOrders of KnownPowers", list), value(t, x), true, v)
		case ok:
			tables[n]++
		case also:
			values[n]++
		}
	})
	for _, n := range sides {
		if both[n] < 15 || n > 2 && values[n] < 100 || n <= 2 && tables[n] < 40 {
			t.Errorf("only %d lists of %d numbers have both, %d only tables, and %d only values", both[n], n, tables[n], values[n])
		}
	}
}

func TestKnownPowersExamples(t *testing.T) {
	for _, c := range []struct {
		list []int
		want [][]int
	}{
		{[]int{0}, [][]int{{1}}}, {[]int{30}, [][]int{{1}}}, {[]int{-30}, [][]int{{1}}}, {[]int{0, 0}, [][]int{{1, 0}, {1, 0}}}, {[]int{30, -30}, [][]int{{1, 30}, {1, -30}}}, {[]int{3, 2}, [][]int{{1, 3}, {1, 2}}},
		{[]int{1, 2, 4}, [][]int{{1, 1, 1}, {1, 2, 4}, {1, 4, 16}}}, {[]int{5, -5, 0}, [][]int{{1, 5, 25}, {1, -5, 25}, {1, 0, 0}}}, {[]int{3, -3, 2, 0}, [][]int{{1, 3, 9, 27}, {1, -3, 9, -27}, {1, 2, 4, 8}, {1, 0, 0, 0}}},
		{[]int{2, -2, 1, -1, 0}, [][]int{{1, 2, 4, 8, 16}, {1, -2, 4, -8, 16}, {1, 1, 1, 1, 1}, {1, -1, 1, -1, 1}, {1, 0, 0, 0, 0}}},
		{[]int{0, 1, -1, 1, 0, -1}, [][]int{{1, 0, 0, 0, 0, 0}, {1, 1, 1, 1, 1, 1}, {1, -1, 1, -1, 1, -1}, {1, 1, 1, 1, 1, 1}, {1, 0, 0, 0, 0, 0}, {1, -1, 1, -1, 1, -1}}},
	} {
		x, ok := impl.KnownPowers(c.list)
		wantTable(t, call("KnownPowers", c.list), x, ok, c.want)
	}
}

// TestKnownPowersLimits has, at each place, the greatest number whose powers are entries, and the one beyond.
func TestKnownPowersLimits(t *testing.T) {
	for n, most := range map[int]int{1: 30, 2: 30, 3: 5, 4: 3, 5: 2, 6: 1} {
		for place := range n {
			for _, sign := range []int{1, -1} {
				list := make([]int, n)
				list[place] = sign * most
				x, ok := impl.KnownPowers(list)
				wantTable(t, call("KnownPowers", list), x, ok, powersOf(list))
				list[place] = sign * (most + 1)
				x, ok = impl.KnownPowers(list)
				wantFailure(t, call("KnownPowers", list), x, ok)
				v, ok := impl.KnownPowersValue(list)
				if most < 9 {
					wantValue(t, call("KnownPowersValue", list), v, ok, valueOf(powersOf(list)))
				} else {
					wantNoValue(t, call("KnownPowersValue", list), v, ok)
				}
			}
		}
	}
}

// P73.

func TestPromise73(t *testing.T) {
	zeros, others := map[int]int{}, map[int]int{}
	eachKnownList(func(list []int) {
		v, ok := impl.KnownPowersValue(list)
		if !ok {
			return
		}
		wantHolds(t, call("KnownPowersValue is 0", list), v == 0, hasSame(list))
		if len(list) > 1 {
			swapped := slices.Clone(list)
			swapped[0], swapped[1] = list[1], list[0]
			w, ok := impl.KnownPowersValue(swapped)
			wantValue(t, call("KnownPowersValue", swapped), w, ok, -v)
		}
		if v == 0 {
			zeros[len(list)]++
		} else {
			others[len(list)]++
		}
	})
	for _, n := range sides {
		if n > 1 && zeros[n] < 15 || others[n] < 15 {
			t.Errorf("only %d values of %d numbers are 0, and %d are not", zeros[n], n, others[n])
		}
	}
	for n := 2; n <= 6; n++ {
		// Two numbers are the same, at each two places, and all others differ.
		for i := range n {
			for k := range i {
				list := []int{-9, 7, 0, 9, -1, 4}[:n]
				list[i] = list[k]
				v, ok := impl.KnownPowersValue(list)
				wantValue(t, call("KnownPowersValue", list), v, ok, 0)
			}
		}
	}
}

func TestKnownPowersValueExamples(t *testing.T) {
	for _, c := range []struct {
		list []int
		want int
	}{
		{[]int{0}, 1}, {[]int{9}, 1}, {[]int{-9}, 1}, {[]int{2, 3}, 1}, {[]int{3, 2}, -1}, {[]int{-9, 9}, 18}, {[]int{9, -9}, -18}, {[]int{5, 5}, 0}, {[]int{0, 0}, 0}, {[]int{0, -1}, -1},
		{[]int{1, 2, 4}, 6}, {[]int{2, 1, 4}, -6}, {[]int{4, 2, 1}, -6}, {[]int{4, 1, 2}, 6}, {[]int{1, 2, 1}, 0}, {[]int{9, 8, 7}, -2}, {[]int{-9, 0, 9}, 9 * 18 * 9}, {[]int{1, 2, 3, 4}, 12}, {[]int{4, 3, 2, 1}, 12}, {[]int{1, 2, 3, 4, 5}, 288}, {[]int{5, 4, 3, 2, 1}, 288},
		{[]int{1, 2, 3, 4, 5, 6}, 34560}, {[]int{6, 5, 4, 3, 2, 1}, -34560}, {[]int{4, 5, 6, 7, 8, 9}, 34560}, {[]int{-4, -5, -6, -7, -8, -9}, -34560}, {[]int{9, 9, 9, 9, 9, 9}, 0}, {[]int{9, 8, 7, 6, 5, 9}, 0},
		{[]int{-9, -7, -3, 3, 7, 9}, 2 * 6 * 12 * 16 * 18 * 4 * 10 * 14 * 16 * 6 * 10 * 12 * 4 * 6 * 2}, {[]int{9, -9, 8, -8, 0, 1}, -18 * -1 * 17 * -17 * 1 * -16 * -9 * 9 * -8 * 8 * -8 * 10 * -7 * 9 * 1},
	} {
		v, ok := impl.KnownPowersValue(c.list)
		wantValue(t, call("KnownPowersValue", c.list), v, ok, c.want)
	}
}

// P74.

func TestPromise74(t *testing.T) {
	strict := map[int]int{}
	check := func(list []int) {
		x, ok := impl.KnownPowers(list)
		if !ok {
			return
		}
		// A number that is not greater than the one ahead of it makes a minor by the first two columns that is not positive.
		isStrict := len(list) == 1 || ascends(list) && list[0] > 0
		wantHolds(t, call("PosStrict of KnownPowers", list), impl.PosStrict(x), isStrict)
		if isStrict {
			strict[len(list)]++
		}
	}
	eachKnownList(check)
	for a := -30; a <= 30; a++ {
		for b := -30; b <= 30; b++ {
			check([]int{a, b})
		}
	}
	for _, list := range allLists(3, []int{-1, 0, 1, 2, 3, 4, 5}) {
		check(list)
	}
	if strict[1] < 61 || strict[2] < 30*29/2 || strict[3] < 10 {
		t.Errorf("only %v squares of powers are strict", strict)
	}
}

// P75.

func TestPromise75(t *testing.T) {
	eachOnes(func(n, a, b int) {
		x, ok := impl.KnownOnes(n, a, b)
		wantTable(t, call("KnownOnes", n, a, b), x, ok, onesOf(n, a, b))
		trace, ok := impl.ValueTrace(x)
		wantValue(t, call("ValueTrace of KnownOnes", n, a, b), trace, ok, n*a)
		v, ok := impl.KnownOnesValue(n, a, b)
		w, also := impl.ValueOrders(x)
		if !ok || !also || v != w {
			t.Errorf("%s returned %d, %v, and ValueOrders of the square %d, %v", call("KnownOnesValue", n, a, b), v, ok, w, also)
		}
	})
	for _, n := range sides {
		for seed, pair := range sample(40, 2, 30, n) {
			wantOnes(t, n, pair[0], pair[1])
			wantOnes(t, n, pair[0], pair[0])
			wantOnes(t, n, seed-20, 20-seed)
		}
	}
}

func TestKnownOnesExamples(t *testing.T) {
	for _, c := range []struct {
		n, a, b int
		want    [][]int
	}{
		{1, 5, 7, [][]int{{5}}}, {1, 0, 30, [][]int{{0}}}, {2, 5, 7, [][]int{{5, 7}, {7, 5}}}, {2, -30, 30, [][]int{{-30, 30}, {30, -30}}}, {3, 2, 1, [][]int{{2, 1, 1}, {1, 2, 1}, {1, 1, 2}}}, {3, 1, 0, unit(3)}, {3, 0, 0, filled(3, 3, 0)},
		{4, -1, 0, [][]int{{-1, 0, 0, 0}, {0, -1, 0, 0}, {0, 0, -1, 0}, {0, 0, 0, -1}}}, {4, 3, 3, filled(4, 4, 3)}, {6, 30, 30, filled(6, 6, 30)}, {6, 1, 0, unit(6)}, {6, 30, 0, timesOf(unit(6), 30)},
		{6, 0, 1, [][]int{{0, 1, 1, 1, 1, 1}, {1, 0, 1, 1, 1, 1}, {1, 1, 0, 1, 1, 1}, {1, 1, 1, 0, 1, 1}, {1, 1, 1, 1, 0, 1}, {1, 1, 1, 1, 1, 0}}},
	} {
		x, ok := impl.KnownOnes(c.n, c.a, c.b)
		wantTable(t, call("KnownOnes", c.n, c.a, c.b), x, ok, c.want)
	}
}

// TestKnownOnesOthers has each of both numbers, and both, beyond the limits of entries.
func TestKnownOnesOthers(t *testing.T) {
	for _, n := range []int{0, 1, 2, 3, 4, 5, 6, 7} {
		for _, number := range beyondEntries {
			for _, other := range []int{-30, -1, 0, 1, 30, number, -number} {
				wantOnes(t, n, number, other)
				wantOnes(t, n, other, number)
			}
		}
	}
}

// P76.

func TestPromise76(t *testing.T) {
	same, together := 0, 0
	eachOnes(func(n, a, b int) {
		v, ok := impl.KnownOnesValue(n, a, b)
		if !ok {
			t.Errorf("%s failed", call("KnownOnesValue", n, a, b))
		}
		if n == 1 {
			wantValue(t, call("KnownOnesValue", n, a, b), v, ok, a)
			return
		}
		wantHolds(t, call("KnownOnesValue is 0", n, a, b), v == 0, a == b || a == -(n-1)*b)
		switch {
		case a == b:
			same++
		case v == 0:
			together++
		}
	})
	if same != 5*61 || together < 60+30+20+14+12 {
		t.Errorf("%d values are 0 as a is b, and %d as both are together", same, together)
	}
}

func TestKnownOnesValueExamples(t *testing.T) {
	for _, c := range [][4]int{
		{3, 2, 1, 4}, {1, 5, 7, 5}, {1, 7, 7, 7}, {1, 0, 0, 0}, {1, -30, 30, -30}, {2, 5, 7, -24}, {2, 7, 5, 24}, {2, 3, 3, 0}, {2, 3, -3, 0}, {2, -3, 3, 0}, {3, -2, 1, 0}, {3, 2, -1, 0}, {3, 4, -1, 50}, {4, 0, 1, -3}, {4, 3, -1, 0}, {4, 1, 0, 1}, {4, -1, 0, 1},
		{5, 0, 1, 4}, {5, -1, 0, -1}, {5, 4, -1, 0}, {6, 0, 1, -5}, {6, 5, -1, 0}, {6, 1, 0, 1}, {6, 2, 1, 7}, {6, 1, 2, -11}, {6, 0, 0, 0}, {6, 30, 30, 0}, {6, -30, 30, -777600000 * 120}, {6, 30, -30, 777600000 * -120}, {6, 30, 0, 729000000}, {6, 0, 30, -24300000 * 150},
	} {
		v, ok := impl.KnownOnesValue(c[0], c[1], c[2])
		wantValue(t, call("KnownOnesValue", c[0], c[1], c[2]), v, ok, c[3])
	}
}

// P77.

func TestPromise77(t *testing.T) {
	for i, want := range []int{1, 1, 2, 4, 16, 32} {
		n := i + 1
		x, ok := impl.KnownDivisors(n)
		wantTable(t, call("KnownDivisors", n), x, ok, divisorsOf(n))
		v, ok := impl.KnownDivisorsValue(n)
		wantValue(t, call("KnownDivisorsValue", n), v, ok, want)
		wantValue(t, call("ValueOrders of KnownDivisors", n), value(t, x), true, v)
	}
}

func TestKnownDivisorsExamples(t *testing.T) {
	six := [][]int{{1, 1, 1, 1, 1, 1}, {1, 2, 1, 2, 1, 2}, {1, 1, 3, 1, 1, 3}, {1, 2, 1, 4, 1, 2}, {1, 1, 1, 1, 5, 1}, {1, 2, 3, 2, 1, 6}}
	for _, n := range sides {
		x, ok := impl.KnownDivisors(n)
		wantTable(t, call("KnownDivisors", n), x, ok, partOf(six, 1<<n-1, 1<<n-1))
	}
}

// P78.

func TestPromise78(t *testing.T) {
	for n := 2; n <= 6; n++ {
		less, ok := impl.KnownDivisorsValue(n - 1)
		v, also := impl.KnownDivisorsValue(n)
		wantHolds(t, call("KnownDivisorsValue", n), ok && also, true)
		wantDivides(t, call("KnownDivisorsValue", n), less, v)
	}
}

// P79.

func TestPromise79(t *testing.T) {
	six := [][]int{{1, 1, 1, 1, 1, 1}, {1, 2, 2, 2, 2, 2}, {1, 2, 3, 3, 3, 3}, {1, 2, 3, 4, 4, 4}, {1, 2, 3, 4, 5, 5}, {1, 2, 3, 4, 5, 6}}
	for _, n := range sides {
		x, ok := impl.KnownLeast(n)
		wantTable(t, call("KnownLeast", n), x, ok, leastOf(n))
		wantTable(t, call("KnownLeast", n), x, ok, partOf(six, 1<<n-1, 1<<n-1))
		wantValue(t, call("ValueOrders of KnownLeast", n), value(t, x), true, 1)
		wantHolds(t, call("PosLasting of KnownLeast", n), impl.PosLasting(x), true)
	}
}

// P80.

func TestPromise80(t *testing.T) {
	eachSums(func(n int, list []int) {
		x, ok := impl.KnownSums(n, list)
		wantTable(t, call("KnownSums", n, list), x, ok, sumsOf(n, list))
		back, ok := impl.TableTurn(x)
		wantTable(t, call("TableTurn of KnownSums", n, list), back, ok, x)
		all := 1<<n - 1
		low, ok := impl.TablePart(x, all-1, all>>1)
		high, also := impl.TablePart(x, all>>1, all-1)
		if n == 1 {
			wantFailure(t, "TablePart of no rows", low, ok)
			wantFailure(t, "TablePart of no rows", high, also)
			return
		}
		wantTable(t, call("both parts of KnownSums", n, list), low, ok && also, high)
	})
}

func TestKnownSumsExamples(t *testing.T) {
	for _, c := range []struct {
		n    int
		list []int
		want [][]int
	}{
		{1, []int{7}, [][]int{{7}}}, {1, []int{0}, [][]int{{0}}}, {1, []int{-30}, [][]int{{-30}}}, {2, []int{1, 2, 3}, [][]int{{1, 2}, {2, 3}}}, {2, []int{30, -30, 0}, [][]int{{30, -30}, {-30, 0}}}, {3, []int{1, 2, 3, 4, 5}, [][]int{{1, 2, 3}, {2, 3, 4}, {3, 4, 5}}},
		{4, []int{0, 0, 0, 1, 0, 0, 0}, [][]int{{0, 0, 0, 1}, {0, 0, 1, 0}, {0, 1, 0, 0}, {1, 0, 0, 0}}}, {5, []int{9, 8, 7, 6, 5, 4, 3, 2, 1}, [][]int{{9, 8, 7, 6, 5}, {8, 7, 6, 5, 4}, {7, 6, 5, 4, 3}, {6, 5, 4, 3, 2}, {5, 4, 3, 2, 1}}},
		{6, []int{1, 2, 3, 4, 5, 6, 7, 8, 9, 10, 30}, [][]int{{1, 2, 3, 4, 5, 6}, {2, 3, 4, 5, 6, 7}, {3, 4, 5, 6, 7, 8}, {4, 5, 6, 7, 8, 9}, {5, 6, 7, 8, 9, 10}, {6, 7, 8, 9, 10, 30}}},
	} {
		x, ok := impl.KnownSums(c.n, c.list)
		wantTable(t, call("KnownSums", c.n, c.list), x, ok, c.want)
	}
}

// TestKnownSumsOthers has lists of too few and too many numbers, and numbers beyond the limits at each place.
func TestKnownSumsOthers(t *testing.T) {
	for _, n := range sides {
		x, ok := impl.KnownSums(n, nil)
		wantFailure(t, call("KnownSums", n, "nil"), x, ok)
		for _, count := range []int{0, 1, 2, 3, 4, 5, 6, 7, 8, 9, 10, 11, 12, 13, 36, 64, 1000, 100000} {
			if count != 2*n-1 {
				x, ok := impl.KnownSums(n, slices.Repeat([]int{1}, count))
				wantFailure(t, call("KnownSums", n, count), x, ok)
			}
		}
		for place := range 2*n - 1 {
			for _, number := range beyondEntries {
				list := sample(1, 2*n-1, 30, place)[0]
				list[place] = number
				x, ok := impl.KnownSums(n, list)
				wantFailure(t, call("KnownSums", n, list), x, ok)
			}
		}
		// Numbers of rows for which 2 n - 1 comes to the count of the list beyond the range of numbers.
		x, ok = impl.KnownSums(math.MinInt+n, slices.Repeat([]int{1}, 2*n-1))
		wantFailure(t, call("KnownSums", "least number and", n), x, ok)
	}
}

// P81.

func TestPromise81(t *testing.T) {
	divides, zeros := map[int]int{}, map[int]int{}
	check := func(list []int) {
		x, ok := impl.KnownTurns(list)
		wantTable(t, call("KnownTurns", list), x, ok, turnsOf(list))
		total, ok := impl.KnownTurnsSum(list)
		wantValue(t, call("KnownTurnsSum", list), total, ok, totalOf(list))
		v := value(t, x)
		if total == 0 {
			zeros[len(list)]++
			wantValue(t, call("ValueOrders of KnownTurns with the sum 0", list), v, true, 0)
			return
		}
		divides[len(list)]++
		wantDivides(t, call("KnownTurnsSum", list), total, v)
	}
	eachKnownList(check)
	for count := 1; count <= 6; count++ {
		// Most samples have another sum, so that 0 is made here.
		for seed := range 20 {
			list := sample(1, count, 6, seed)[0]
			list[0] -= totalOf(list)
			if numbersWithin(list, 30) {
				check(list)
				total, ok := impl.KnownTurnsSum(list)
				wantValue(t, call("KnownTurnsSum", list), total, ok, 0)
			}
		}
	}
	for _, n := range sides {
		if divides[n] < 50 || zeros[n] < 5 {
			t.Errorf("only %d sums of turns of %d numbers are not 0, and %d are", divides[n], n, zeros[n])
		}
	}
}

func TestKnownTurnsExamples(t *testing.T) {
	for _, c := range []struct {
		list  []int
		want  [][]int
		total int
	}{
		{[]int{5}, [][]int{{5}}, 5}, {[]int{0}, [][]int{{0}}, 0}, {[]int{-30}, [][]int{{-30}}, -30}, {[]int{1, 2}, [][]int{{1, 2}, {2, 1}}, 3}, {[]int{30, -30}, [][]int{{30, -30}, {-30, 30}}, 0}, {[]int{1, 2, 3}, [][]int{{1, 2, 3}, {3, 1, 2}, {2, 3, 1}}, 6},
		{[]int{0, 1, 0, 0}, [][]int{{0, 1, 0, 0}, {0, 0, 1, 0}, {0, 0, 0, 1}, {1, 0, 0, 0}}, 1}, {[]int{1, -2, 3, -4, 2}, [][]int{{1, -2, 3, -4, 2}, {2, 1, -2, 3, -4}, {-4, 2, 1, -2, 3}, {3, -4, 2, 1, -2}, {-2, 3, -4, 2, 1}}, 0},
		{[]int{1, 2, 3, 4, 5, 6}, [][]int{{1, 2, 3, 4, 5, 6}, {6, 1, 2, 3, 4, 5}, {5, 6, 1, 2, 3, 4}, {4, 5, 6, 1, 2, 3}, {3, 4, 5, 6, 1, 2}, {2, 3, 4, 5, 6, 1}}, 21},
		{[]int{30, 30, 30, 30, 30, 30}, filled(6, 6, 30), 180}, {[]int{-30, -30, -30, -30, -30, -30}, filled(6, 6, -30), -180}, {[]int{1, 0, 0, 0, 0, 0}, unit(6), 1}, {[]int{0, 0, 0}, filled(3, 3, 0), 0},
	} {
		x, ok := impl.KnownTurns(c.list)
		wantTable(t, call("KnownTurns", c.list), x, ok, c.want)
		total, ok := impl.KnownTurnsSum(c.list)
		wantValue(t, call("KnownTurnsSum", c.list), total, ok, c.total)
	}
}

// P82.

func TestPromise82(t *testing.T) {
	made := map[int]int{}
	eachKnownList(func(list []int) {
		x, ok := impl.KnownTurns(list)
		total, also := impl.KnownTurnsSum(list)
		if !ok || !also {
			t.Fatalf("%s failed", call("KnownTurns or KnownTurnsSum", list))
		}
		for _, row := range x {
			wantValue(t, call("the sum of a row of KnownTurns", list), totalOf(row), true, total)
		}
		back, ok := impl.TableTurn(x)
		ahead, behind := productOf(x, back), productOf(back, x)
		wantTable(t, call("the products of KnownTurns both ways", list), ahead, ok, behind)
		one, ok := impl.TableMake(x, back)
		other, also := impl.TableMake(back, x)
		wantIf(t, call("TableMake of KnownTurns and it turned", list), one, ok, ahead)
		wantIf(t, call("TableMake of KnownTurns turned and it", list), other, also, ahead)
		if ok {
			made[len(list)]++
		}
	})
	for _, n := range sides {
		if made[n] < 10 {
			t.Errorf("only %d products of turns of %d numbers are tables", made[n], n)
		}
	}
}

// Memory and arguments.

func TestKnownMemory(t *testing.T) {
	for _, n := range sides {
		powers := slices.Repeat([]int{1, 0, -1}, 2)[:n]
		checkMemory(t, "KnownPowers", [][][]int{{powers}}, func(a [][][]int) ([][]int, bool) { return impl.KnownPowers(a[0][0]) })
		checkMemory(t, "KnownTurns", [][][]int{sample(1, n, 30, n)}, func(a [][][]int) ([][]int, bool) { return impl.KnownTurns(a[0][0]) })
		checkMemory(t, "KnownSums", [][][]int{sample(1, 2*n-1, 30, n)}, func(a [][][]int) ([][]int, bool) { return impl.KnownSums(n, a[0][0]) })
		checkMemory(t, "KnownOnes", nil, func([][][]int) ([][]int, bool) { return impl.KnownOnes(n, 2, -3) })
		checkMemory(t, "KnownDivisors", nil, func([][][]int) ([][]int, bool) { return impl.KnownDivisors(n) })
		checkMemory(t, "KnownLeast", nil, func([][][]int) ([][]int, bool) { return impl.KnownLeast(n) })
	}
}

// callKnowns calls all functions of the chapter and returns what they return.
func callKnowns(n, a, b int, list []int) []any {
	results := []any{}
	for _, name := range []string{"KnownPowers", "KnownTurns"} {
		x, ok := listFunctions[name](list)
		results = append(results, x, ok)
	}
	for _, name := range []string{"KnownPowersValue", "KnownTurnsSum"} {
		v, ok := listValues[name](list)
		results = append(results, v, ok)
	}
	for _, name := range []string{"KnownDivisors", "KnownLeast"} {
		x, ok := sideFunctions[name](n)
		results = append(results, x, ok)
	}
	v, ok := impl.KnownDivisorsValue(n)
	x, also := impl.KnownOnes(n, a, b)
	w, too := impl.KnownOnesValue(n, a, b)
	y, told := impl.KnownSums(n, list)
	return append(results, v, ok, x, also, w, too, y, told)
}

// TestKnownKeepArguments calls all functions, also for what makes them fail.
func TestKnownKeepArguments(t *testing.T) {
	for n := -1; n <= 8; n++ {
		for count := range 14 {
			for seed, limit := range []int{0, 1, 9, 30, 31} {
				list := loose(sample(1, count, limit, seed))
				before := wholeOf(list)
				if !reflect.DeepEqual(callKnowns(n, limit, -seed, list[0]), callKnowns(n, limit, -seed, list[0])) {
					t.Errorf("two calls for %d, %d, %d and %v differ", n, limit, -seed, list[0])
				}
				if !reflect.DeepEqual(wholeOf(list), before) {
					t.Errorf("the argument %v has changed", before)
				}
			}
		}
	}
}

// TestKnownAgain writes over a result, and over the list that told it, before the next call.
func TestKnownAgain(t *testing.T) {
	list := []int{1, 2, 3}
	for name, function := range listFunctions {
		x, ok := function(list)
		want := [][]int{slices.Clone(x[0]), slices.Clone(x[1]), slices.Clone(x[2])}
		copied := slices.Clone(list)
		y, also := function(copied)
		scribble(copied)
		wantTable(t, call(name, "and its list written over"), y, also, want)
		for _, row := range y {
			scribble(row)
		}
		z, too := function(list)
		wantTable(t, call(name, "after another result is written over"), z, too, want)
		wantTable(t, call(name, list), x, ok, want)
	}
	list = []int{4, 5, 6}
	x, ok := impl.KnownSums(2, list)
	scribble(list)
	wantTable(t, "KnownSums and its list written over", x, ok, [][]int{{4, 5}, {5, 6}})
}
