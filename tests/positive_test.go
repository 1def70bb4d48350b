package tests

import (
	"math"
	"reflect"
	"slices"
	"sync"
	"testing"

	"loop.example/tableminors/impl"
)

// minorsBySets returns the minors by each set of rows and each set of columns of as many, at the places that have the
// sets as numbers. Each one is found from minors of one row less, by its last row.
func minorsBySets(u [][]int) [][]int {
	m := filled(1<<len(u), 1<<len(u[0]), 0)
	m[0][0] = 1
	for rows := 1; rows < len(m); rows++ {
		last := 0
		for rows>>last > 1 {
			last++
		}
		for _, columns := range setsOf(len(u[0]), members(rows)) {
			for k := range u[0] {
				if columns>>k&1 == 0 {
					continue
				}
				term := u[last][k] * m[rows^1<<last][columns^1<<k]
				if members(columns>>k)%2 == 0 {
					term = -term
				}
				m[rows][columns] += term
			}
		}
	}
	return m
}

// together tells whether the members of a set stand beside each other.
func together(set int) bool {
	for set%2 == 0 {
		set /= 2
	}
	return set&(set+1) == 0
}

// judged is what has to be told of a table: whether it is lasting and strict, its first minors with the places of
// their last rows and columns, and the worst minor with its sets.
type judged struct {
	lasting, strict bool
	firsts          map[[2]int]int
	worst           [3]int
}

// judge looks at all minors of one row at least.
func judge(u [][]int) judged {
	j := judged{true, true, map[[2]int]int{}, [3]int{math.MaxInt, 0, 0}}
	m := minorsBySets(u)
	for size := 1; size <= lesser(u); size++ {
		for _, rows := range setsOf(len(u), size) {
			for _, columns := range setsOf(len(u[0]), size) {
				x := m[rows][columns]
				j.lasting = j.lasting && x >= 0
				j.strict = j.strict && x > 0
				if x < j.worst[0] {
					j.worst = [3]int{x, rows, columns}
				}
				if together(rows) && together(columns) && (rows&1 == 1 || columns&1 == 1) {
					j.firsts[[2]int{lastOf(rows), lastOf(columns)}] = x
				}
			}
		}
	}
	return j
}

// lastOf returns the greatest member of a set.
func lastOf(set int) int {
	list := columnsOf(set)
	return list[len(list)-1]
}

// notPositive returns the places of the first minors that are not positive.
func (j judged) notPositive() [][2]int {
	var places [][2]int
	for place, x := range j.firsts {
		if x <= 0 {
			places = append(places, place)
		}
	}
	return places
}

// floorOver returns the greatest number whose product with a positive one is at most a.
func floorOver(a, b int) int {
	q := a / b
	if a%b < 0 {
		q--
	}
	return q
}

// completed returns the table with a first row and a first column, all its other entries being those nearest to
// making first minors that are not positive: but at one place, if it is none of the first row and column, the first
// minor is not positive, and lower by some steps. It fails if there is no such table.
func completed(row, column []int, place [2]int, steps int) ([][]int, bool) {
	u := filled(len(column), len(row), 0)
	copy(u[0], row)
	for i := 1; i < len(column); i++ {
		u[i][0] = column[i]
		for k := 1; k < len(row); k++ {
			n := min(i, k)
			around := partOf(u, (1<<(n+1)-1)<<(i-n), (1<<(n+1)-1)<<(k-n))
			with, rest := valueOf(around), valueOf(without(around, n, n))
			switch {
			case place == [2]int{i, k} && rest > 0:
				u[i][k] = floorOver(-with, rest) - steps
			case place == [2]int{i, k}:
				return nil, false
			case rest > 0:
				u[i][k] = floorOver(-with, rest) + 1
			case rest < 0:
				u[i][k] = floorOver(with-1, -rest)
			case with <= 0:
				return nil, false
			}
			if abs(u[i][k]) > 30 {
				return nil, false
			}
		}
	}
	return u, true
}

// nowhere is no place of a table.
var nowhere = [2]int{-1, -1}

// strictSix is strict, though it has as many rows and columns as may be, and entries within the limits.
var strictSix = [][]int{
	{28, 28, 22, 19, 8, 2}, {25, 26, 21, 19, 9, 3}, {25, 27, 23, 23, 14, 7},
	{16, 18, 17, 21, 20, 15}, {14, 16, 16, 22, 25, 21}, {6, 7, 8, 14, 24, 27},
}

// edges returns a first row and a first column of positive numbers, which have the first one in common.
func edges(height, width, seed int) (row, column []int) {
	for _, x := range sample(1, width, 1+seed%9, seed)[0] {
		row = append(row, x+2+seed%9)
	}
	for _, x := range sample(1, height, 1+seed%9, seed+500)[0] {
		column = append(column, x+2+seed%9)
	}
	column[0] = row[0]
	return row, column
}

// stricts returns strict tables of all sides.
func stricts() [][][]int {
	all := [][][]int{strictSix, turned(strictSix), {{1}}, {{30}}, {{1, 1}, {1, 2}}, {{30, 29}, {29, 30}}, filled(1, 6, 30), filled(6, 1, 1)}
	for _, height := range sides {
		for _, width := range sides {
			rowSets, columnSets := setsOf(6, height), setsOf(6, width)
			for seed := range 4 {
				all = append(all, partOf(strictSix, rowSets[(seed*7)%len(rowSets)], columnSets[(seed*11+5)%len(columnSets)]))
			}
			for seed := range 60 {
				row, column := edges(height, width, seed)
				if u, ok := completed(row, column, nowhere, 0); ok {
					all = append(all, u)
				}
			}
		}
	}
	return all
}

// ones returns the table with 1 at all places that a function tells, and 0 elsewhere.
func ones(height, width int, has func(i, k int) bool) [][]int {
	u := filled(height, width, 0)
	for i := range u {
		for k := range u[i] {
			if has(i, k) {
				u[i][k] = 1
			}
		}
	}
	return u
}

// lastings returns lasting tables that are not strict, of all sides.
func lastings() [][][]int {
	var all [][][]int
	for _, height := range sides {
		for _, width := range sides {
			if min(height, width) > 1 {
				all = append(all, filled(height, width, 1), filled(height, width, 30))
			}
			if max(height, width) > 1 {
				all = append(all, ones(height, width, func(i, k int) bool { return i == k }))
			}
			if max(height, width) > 1 && height >= width {
				all = append(all, ones(height, width, func(i, k int) bool { return i >= k }))
			}
			all = append(all, filled(height, width, 0), ones(height, width, func(i, k int) bool { return i > k }),
				ones(height, width, func(i, k int) bool { return k > i }), ones(height, width, func(i, k int) bool { return i == k+1 || i == k+2 }))
			rowSets, columnSets := setsOf(6, height), setsOf(6, width)
			for seed := range 3 {
				u := partOf(strictSix, rowSets[seed%len(rowSets)], columnSets[(seed+3)%len(columnSets)])
				all = append(all, withoutRow(u, seed%height), turned(withoutRow(turned(u), seed%width)))
			}
		}
	}
	for _, n := range lineCounts {
		for count := range 11 {
			for seed := range 6 {
				m := sampleNet(n, count, []int{1, 1, 2, 0}, seed+70)
				if x, ok := impl.NetTable(n, m.chips); ok && !judge(x).strict {
					all = append(all, x)
				}
			}
		}
	}
	return all
}

// withoutRow returns the table with 0 in a whole row.
func withoutRow(u [][]int, i int) [][]int {
	w := timesOf(u, 1)
	clear(w[i])
	return w
}

// spoiled is a table of which all first minors but the one with the last row and column of a place are positive.
type spoiled struct {
	u     [][]int
	place [2]int
}

// spoiledTables returns such tables of all sides: the only first minor that is not positive is 0 in some and negative
// in others.
func spoiledTables() []spoiled {
	var all []spoiled
	for _, height := range sides {
		for _, width := range sides {
			for i := range height {
				for k := range width {
					place := [2]int{i, k}
					for seed := range 40 {
						row, column := edges(height, width, seed)
						if i == 0 {
							row[k] = -(seed % 3)
						}
						if k == 0 {
							column[i] = -(seed % 3)
						}
						row[0] = min(row[0], column[0])
						if u, ok := completed(row, column, place, seed%3); ok {
							all = append(all, spoiled{u, place})
						}
					}
				}
			}
		}
	}
	for i := range 6 {
		for k := range 6 {
			for steps := range 2 {
				if u, ok := completed(strictSix[0], turned(strictSix)[0], [2]int{i, k}, steps); ok && i > 0 && k > 0 {
					all = append(all, spoiled{u, [2]int{i, k}})
				}
			}
		}
	}
	return all
}

// positives returns all these tables, and others that look mixed.
func positives() [][][]int {
	all := append(stricts(), lastings()...)
	for _, s := range spoiledTables() {
		all = append(all, s.u)
	}
	all = append(all, minorTables()...)
	for _, u := range stricts() {
		w := timesOf(u, 1)
		w[len(w)-1][len(w[0])/2]++
		if impl.TableIn(w) {
			all = append(all, w)
		}
		all = append(all, timesOf(u, -1), slices.Concat(u[1:], u[:1]))
	}
	return all
}

// positiveTables are found once, as many are found by fractions.
var positiveTables = sync.OnceValue(positives)

// allTables calls a function for all tables of some sides with entries from a list.
func allTables(height, width int, entries []int, function func(u [][]int)) {
	for number := range powerOf(len(entries), height*width) {
		u := filled(height, width, 0)
		for place := range height * width {
			u[place/width][place%width] = entries[number%len(entries)]
			number /= len(entries)
		}
		function(u)
	}
}

// eachPositive calls a function for all samples and for all small tables.
func eachPositive(function func(u [][]int)) {
	for _, u := range positiveTables() {
		function(u)
	}
	for _, size := range []int{1, 2, 3} {
		allTables(1, size, []int{-2, -1, 0, 1, 2}, function)
		allTables(size, 1, []int{-2, -1, 0, 1, 2}, function)
	}
	allTables(2, 2, []int{-2, -1, 0, 1, 2, 3}, function)
	allTables(2, 3, []int{-1, 0, 1, 2}, function)
	allTables(3, 2, []int{-1, 0, 1, 2}, function)
	allTables(2, 4, []int{-1, 0, 1}, function)
	allTables(4, 2, []int{0, 1, 2}, function)
	allTables(3, 3, []int{0, 1, 2}, function)
}

// changesOf counts by a list without the numbers that are 0.
func changesOf(x []int) int {
	rest := slices.DeleteFunc(slices.Clone(x), func(number int) bool { return number == 0 })
	count := 0
	for i := range rest {
		if i > 0 && (rest[i] > 0) != (rest[i-1] > 0) {
			count++
		}
	}
	return count
}

func timesListOf(u [][]int, x []int) []int {
	sums := make([]int, len(u))
	for i, row := range u {
		for k, entry := range row {
			sums[i] += entry * x[k]
		}
	}
	return sums
}

// changes calls PosChanges for a list.
func changes(t *testing.T, x []int) int {
	t.Helper()
	n, ok := impl.PosChanges(x)
	if !ok {
		t.Errorf("PosChanges(%v) failed", x)
	}
	return n
}

// allLists returns all lists of some numbers from a list of them.
func allLists(count int, numbers []int) [][]int {
	all := [][]int{}
	if count == 0 {
		return append(all, nil)
	}
	allTables(1, count, numbers, func(u [][]int) { all = append(all, u[0]) })
	return all
}

// wantWorst reports a worst minor that is not the one told, or not at the sets told.
func wantWorst(t *testing.T, u [][]int, want [3]int) {
	t.Helper()
	x, rows, columns, ok := impl.PosWorst(u)
	if got := [3]int{x, rows, columns}; !ok || got != want {
		t.Errorf("%s returned %v, %v; want %v, true", call("PosWorst", u), got, ok, want)
	}
}

// wantJudged compares what is told of a table.
func wantJudged(t *testing.T, u [][]int, j judged) {
	t.Helper()
	wantHolds(t, call("PosLasting", u), impl.PosLasting(u), j.lasting)
	wantHolds(t, call("PosStrict", u), impl.PosStrict(u), j.strict)
	wantHolds(t, call("PosFirst", u), impl.PosFirst(u), len(j.notPositive()) == 0)
	n, ok := impl.PosFirstCount(u)
	wantValue(t, call("PosFirstCount", u), n, ok, len(j.firsts))
	wantWorst(t, u, j.worst)
}

// The rules for all functions.

func TestPositives(t *testing.T) {
	strict, lasting, neither := 0, 0, 0
	eachPositive(func(u [][]int) {
		j := judge(u)
		wantJudged(t, u, j)
		switch {
		case j.strict:
			strict++
		case j.lasting:
			lasting++
		default:
			neither++
		}
	})
	if strict < 1000 || lasting < 1000 || neither < 1000 {
		t.Errorf("only %d tables are strict, %d lasting and %d neither", strict, lasting, neither)
	}
}

// TestNoPositives calls all functions of a table for what is none.
func TestNoPositives(t *testing.T) {
	for _, u := range noTables() {
		wantHolds(t, call("PosLasting", len(u)), impl.PosLasting(u), false)
		wantHolds(t, call("PosStrict", len(u)), impl.PosStrict(u), false)
		wantHolds(t, call("PosFirst", len(u)), impl.PosFirst(u), false)
		n, ok := impl.PosFirstCount(u)
		wantNoValue(t, call("PosFirstCount", len(u)), n, ok)
		x, rows, columns, ok := impl.PosWorst(u)
		if ok || x != 0 || rows != 0 || columns != 0 {
			t.Errorf("PosWorst of no table returned %d, %d, %d, %v", x, rows, columns, ok)
		}
		lists := [][]int{nil, {}, {1}, {1, 2}, {0, 0, 0}}
		for _, row := range u {
			lists = append(lists, make([]int, len(row)), filled(1, len(row), 1)[0])
		}
		for _, list := range lists {
			y, ok := impl.PosTimes(u, list)
			wantNoList(t, call("PosTimes of no table", len(u), len(list)), y, ok)
		}
	}
}

// TestPositiveLimits has the greatest entries and entries just beyond, and as many rows and columns as may be, and more.
func TestPositiveLimits(t *testing.T) {
	for _, height := range []int{1, 6, 7} {
		for _, width := range []int{1, 6, 7} {
			for _, entry := range []int{30, 31} {
				u := filled(height, width, entry)
				isTable := height < 7 && width < 7 && entry == 30
				wantHolds(t, call("PosLasting", u), impl.PosLasting(u), isTable)
				wantHolds(t, call("PosStrict", u), impl.PosStrict(u), isTable && min(height, width) == 1)
				wantHolds(t, call("PosFirst", u), impl.PosFirst(u), isTable && min(height, width) == 1)
				n, ok := impl.PosFirstCount(u)
				x, list := make([]int, width), filled(1, height, width*900)[0]
				for k := range x {
					x[k] = 30
				}
				y, also := impl.PosTimes(u, x)
				_, _, _, too := impl.PosWorst(u)
				wantHolds(t, call("PosWorst", u), too, isTable)
				if isTable {
					wantValue(t, call("PosFirstCount", u), n, ok, height*width)
					wantList(t, call("PosTimes", u), y, also, list)
				} else {
					wantNoValue(t, call("PosFirstCount", u), n, ok)
					wantNoList(t, call("PosTimes", u), y, also)
				}
			}
		}
	}
}

// TestPositivesOfZero has tables with entries of 0, in whole rows and columns too: none is strict, and all that are
// not negative elsewhere and have no minor below 0 are lasting.
func TestPositivesOfZero(t *testing.T) {
	for _, height := range sides {
		for _, width := range sides {
			u := filled(height, width, 0)
			wantJudged(t, u, judged{true, false, judge(u).firsts, [3]int{0, 1, 1}})
			for i := range height {
				for k := range width {
					for _, other := range []int{1, 30} {
						w := filled(height, width, other)
						w[i][k] = 0
						wantHolds(t, call("PosStrict", w), impl.PosStrict(w), false)
						// Only in a corner there are no rows and columns on both sides with which it makes minors below 0.
						corner := height == 1 || width == 1 || i == 0 && k == width-1 || i == height-1 && k == 0
						wantHolds(t, call("PosLasting", w), impl.PosLasting(w), corner)
						wantHolds(t, call("PosFirst", w), impl.PosFirst(w), false)
					}
					single := filled(height, width, 0)
					single[i][k] = 30
					wantHolds(t, call("PosLasting", single), impl.PosLasting(single), true)
					wantHolds(t, call("PosStrict", single), impl.PosStrict(single), height*width == 1)
					wantHolds(t, call("PosFirst", single), impl.PosFirst(single), height*width == 1)
					single[i][k] = -1
					wantHolds(t, call("PosLasting", single), impl.PosLasting(single), false)
					wantWorst(t, single, [3]int{-1, 1 << i, 1 << k})
				}
			}
		}
	}
	for _, c := range []struct {
		u       [][]int
		lasting bool
		worst   [3]int
	}{
		{[][]int{{0}}, true, [3]int{0, 1, 1}}, {[][]int{{1, 0}, {0, 1}}, true, [3]int{0, 1, 2}}, {[][]int{{0, 1}, {1, 0}}, false, [3]int{-1, 3, 3}},
		{[][]int{{1, 1}, {0, 1}}, true, [3]int{0, 2, 1}}, {[][]int{{0, 1}, {0, 1}}, true, [3]int{0, 1, 1}}, {[][]int{{0, 1}, {1, 1}}, false, [3]int{-1, 3, 3}},
		{[][]int{{1, 2}, {0, 0}}, true, [3]int{0, 2, 1}}, {[][]int{{0, 0}, {1, 2}}, true, [3]int{0, 1, 1}}, {[][]int{{2, 0}, {1, 0}}, true, [3]int{0, 1, 2}},
		{[][]int{{1, 1, 0}, {1, 1, 1}, {0, 1, 1}}, false, [3]int{-1, 7, 7}}, {[][]int{{2, 1, 0}, {1, 2, 1}, {0, 1, 2}}, true, [3]int{0, 1, 4}}, {[][]int{{1, 0, 1}, {0, 1, 0}}, false, [3]int{-1, 3, 6}},
	} {
		wantHolds(t, call("PosLasting", c.u), impl.PosLasting(c.u), c.lasting)
		wantHolds(t, call("PosStrict", c.u), impl.PosStrict(c.u), false)
		wantHolds(t, call("PosFirst", c.u), impl.PosFirst(c.u), false)
		wantWorst(t, c.u, c.worst)
	}
}

// wholeSixes are squares of six rows of which no minor but the value is not positive: it is 0 in one and -1 in the other.
var wholeSixes = [][][]int{
	{{28, 28, 22, 19, 7, 2}, {25, 26, 21, 19, 8, 3}, {25, 27, 23, 23, 13, 7}, {18, 20, 18, 20, 15, 10}, {14, 16, 16, 22, 27, 23}, {6, 7, 8, 14, 26, 26}},
	{{28, 28, 22, 19, 7, 2}, {25, 26, 21, 19, 8, 3}, {25, 27, 23, 23, 13, 7}, {16, 18, 17, 21, 20, 15}, {15, 17, 17, 24, 30, 26}, {7, 8, 9, 16, 28, 29}},
}

// TestPositivesOfWholeSquares has squares of which the value alone is negative, or 0.
func TestPositivesOfWholeSquares(t *testing.T) {
	for n, c := range map[int][2]int{1: {-1, 5}, 2: {1, 2}, 3: {5, 4}, 4: {3, 2}, 5: {5, 3}, 6: {7, 4}} {
		u := filled(n, n, 0)
		for i := range n {
			u[i][i] = c[0]
			if i > 0 {
				u[i][i-1], u[i-1][i] = c[1], c[1]
			}
		}
		wantHolds(t, call("PosLasting", u), impl.PosLasting(u), false)
		wantHolds(t, call("PosFirst", u), impl.PosFirst(u), false)
		wantWorst(t, u, [3]int{value(t, u), 1<<n - 1, 1<<n - 1})
		for i := range n {
			if n > 1 {
				wantHolds(t, call("PosLasting of a part", u, i), impl.PosLasting(partOf(u, 1<<n-1-1<<i, 1<<n-1)), true)
			}
		}
	}
	for i, u := range wholeSixes {
		wantJudged(t, u, judged{i == 0, false, judge(u).firsts, [3]int{-i, 63, 63}})
		for place := range 6 {
			wantHolds(t, call("PosStrict of a part", u, place), impl.PosStrict(partOf(u, 63-1<<place, 63)), true)
			wantHolds(t, call("PosFirst of a part", u, place), impl.PosFirst(partOf(u, 63, 63-1<<place)), true)
		}
	}
}

// P63.

func TestPromise63(t *testing.T) {
	smaller := 0
	eachPositive(func(u [][]int) {
		if !impl.PosLasting(u) {
			wantHolds(t, call("PosLasting of it turned", u), impl.PosLasting(turned(u)), false)
			return
		}
		back, ok := impl.TableTurn(u)
		wantHolds(t, call("PosLasting of TableTurn", u), ok && impl.PosLasting(back), true)
		if len(u) > 1 {
			part, ok := impl.TablePart(u, 1<<len(u)-2, 1<<len(u[0])-1)
			wantHolds(t, call("PosLasting without the first row", u), ok && impl.PosLasting(part), true)
			smaller++
		}
	})
	if smaller < 2000 {
		t.Errorf("only %d lasting tables have two rows at least", smaller)
	}
}

func TestPosLastingExamples(t *testing.T) {
	for _, c := range []struct {
		u       [][]int
		lasting bool
	}{
		{[][]int{{1, 1}, {1, 1}}, true}, {[][]int{{1, 1}, {1, 2}}, true}, {[][]int{{1, 2}, {3, 4}}, false}, {[][]int{{2, 1}, {4, 2}}, true}, {[][]int{{2, 1}, {5, 2}}, false},
		{[][]int{{-1}}, false}, {[][]int{{30}}, true}, {[][]int{{1, 2, 3, 0, 30, 1}}, true}, {[][]int{{1, 2, 3, 0, 30, -1}}, false}, {[][]int{{1}, {0}, {9}, {2}, {0}, {0}}, true}, {[][]int{{0}, {-1}}, false},
		{[][]int{{-1, -1}, {-1, -2}}, false}, {[][]int{{1, 1, 1}, {1, 2, 3}, {1, 3, 6}}, true}, {[][]int{{1, 1, 1}, {1, 2, 3}, {1, 3, 5}}, true}, {[][]int{{1, 1, 1}, {1, 2, 3}, {1, 3, 4}}, false},
		{[][]int{{1, 1, 1}, {1, 2, 4}, {1, 3, 9}}, true}, {[][]int{{1, 1, 1}, {1, 3, 9}, {1, 2, 4}}, false}, {unit(6), true}, {timesOf(unit(6), -1), false}, {strictSix, true}, {greatSquare(), false},
		// All minors of one row and of two are positive, but not the one of three.
		{[][]int{{2, 2, 1}, {2, 3, 3}, {1, 3, 4}}, false}, {[][]int{{2, 2, 1}, {2, 3, 3}, {1, 3, 5}}, true}, {[][]int{{1, 2, 1}, {2, 5, 5}, {1, 5, 6}}, false},
	} {
		wantHolds(t, call("PosLasting", c.u), impl.PosLasting(c.u), c.lasting)
	}
}

// P64.

func TestPromise64(t *testing.T) {
	made := 0
	eachPositive(func(u [][]int) {
		if !impl.PosLasting(u) {
			return
		}
		back, _ := impl.TableTurn(u)
		x, ok := impl.TableMake(u, back)
		if ok {
			made++
			wantHolds(t, call("PosLasting of the product with it turned", u), impl.PosLasting(x), true)
		}
	})
	if made < 1000 {
		t.Errorf("only %d products are tables", made)
	}
}

// P65.

func TestPromise65(t *testing.T) {
	strict := map[[2]int]int{}
	eachPositive(func(u [][]int) {
		if !impl.PosStrict(u) {
			return
		}
		strict[[2]int{len(u), len(u[0])}]++
		wantHolds(t, call("PosLasting of a strict table", u), impl.PosLasting(u), true)
		wantHolds(t, call("PosFirst of a strict table", u), impl.PosFirst(u), true)
		r, ok := impl.ValueRank(u)
		wantValue(t, call("ValueRank of a strict table", u), r, ok, lesser(u))
	})
	if len(strict) != 36 {
		t.Errorf("there are strict tables of only %d heights and widths", len(strict))
	}
}

func TestPosStrictExamples(t *testing.T) {
	for _, c := range []struct {
		u      [][]int
		strict bool
	}{
		{[][]int{{1, 1}, {1, 2}}, true}, {[][]int{{1, 1}, {1, 1}}, false}, {[][]int{{1, 2}, {3, 4}}, false}, {[][]int{{4, 3}, {2, 1}}, false}, {[][]int{{4, 3}, {1, 2}}, true},
		{[][]int{{1}}, true}, {[][]int{{0}}, false}, {[][]int{{-1}}, false}, {[][]int{{1, 30, 2, 5, 1, 9}}, true}, {[][]int{{1, 30, 2, 0, 1, 9}}, false}, {[][]int{{3}, {2}, {1}, {1}, {2}, {3}}, true}, {[][]int{{3}, {2}, {-1}}, false},
		{[][]int{{1, 1, 1}, {1, 2, 3}, {1, 3, 6}}, true}, {[][]int{{1, 1, 1}, {1, 2, 3}, {1, 3, 5}}, false}, {[][]int{{1, 1, 1}, {1, 2, 4}, {1, 3, 9}}, true}, {[][]int{{1, 1, 1}, {1, 2, 4}, {1, 2, 5}}, false},
		{[][]int{{1, 1, 1, 1}, {1, 2, 3, 4}, {1, 3, 6, 10}, {1, 4, 10, 20}}, true}, {[][]int{{1, 1, 1, 1}, {1, 2, 3, 4}, {1, 3, 6, 10}, {1, 4, 10, 19}}, false},
		{strictSix, true}, {turned(strictSix), true}, {unit(2), false}, {unit(6), false}, {filled(6, 6, 30), false}, {greatSquare(), false}, {filled(2, 6, 1), false}, {filled(6, 2, 1), false},
	} {
		wantHolds(t, call("PosStrict", c.u), impl.PosStrict(c.u), c.strict)
	}
}

// P66.

func TestPromise66(t *testing.T) {
	first := 0
	eachPositive(func(u [][]int) {
		if impl.PosFirst(u) {
			first++
			wantHolds(t, call("PosStrict where PosFirst holds", u), impl.PosStrict(u), true)
		}
	})
	if first < 1000 {
		t.Errorf("PosFirst held for only %d tables", first)
	}
}

// TestPosFirstSpoiled has tables of which a single first minor is not positive, at each place.
func TestPosFirstSpoiled(t *testing.T) {
	zeros, negatives := map[[4]int]bool{}, map[[4]int]bool{}
	for _, s := range spoiledTables() {
		j := judge(s.u)
		if places := j.notPositive(); len(places) != 1 || places[0] != s.place {
			t.Fatalf("%v has first minors %v, not only the one at %v that is not positive", s.u, j.firsts, s.place)
		}
		wantHolds(t, call("PosFirst", s.u), impl.PosFirst(s.u), false)
		wantHolds(t, call("PosStrict", s.u), impl.PosStrict(s.u), false)
		kind := [4]int{len(s.u), len(s.u[0]), s.place[0], s.place[1]}
		if j.firsts[s.place] == 0 {
			zeros[kind] = true
		} else {
			negatives[kind] = true
		}
	}
	for _, height := range sides {
		for _, width := range sides {
			for i := range height {
				for k := range width {
					kind := [4]int{height, width, i, k}
					// Where rows and columns follow, a first minor of 0 makes another one that is not positive.
					last := i == height-1 || k == width-1
					if max(height, width) <= 3 && (!negatives[kind] || last && !zeros[kind]) {
						t.Errorf("there is no table of %d rows and %d columns whose only first minor that is not positive is at %d and %d", height, width, i, k)
					}
				}
			}
		}
	}
	if len(zeros) < 100 || len(negatives) < 150 {
		t.Errorf("only %d places of first minors of 0 and %d of negative ones are tested", len(zeros), len(negatives))
	}
}

func TestPosFirstExamples(t *testing.T) {
	for _, c := range []struct {
		u     [][]int
		first bool
	}{
		{[][]int{{1, 1}, {1, 1}}, false}, {[][]int{{1, 1}, {1, 2}}, true}, {[][]int{{1, 2}, {1, 1}}, false}, {[][]int{{1}}, true}, {[][]int{{0}}, false}, {[][]int{{-1}}, false},
		{[][]int{{1, 30, 2, 5, 1, 9}}, true}, {[][]int{{0, 30, 2, 5, 1, 9}}, false}, {[][]int{{1, 30, 2, 5, 1, -9}}, false}, {[][]int{{3}, {2}, {1}}, true}, {[][]int{{3}, {0}, {1}}, false},
		{[][]int{{1, 1, 1}, {1, 2, 3}, {1, 3, 6}}, true}, {[][]int{{1, 1, 1}, {1, 2, 3}, {1, 3, 5}}, false}, {[][]int{{1, 1, 1}, {1, 2, 3}, {1, 3, 4}}, false}, {strictSix, true}, {unit(6), false},
		// Positive minors in the middle, and none that is first.
		{[][]int{{-1, -1, -1}, {-1, 2, 1}, {-1, 1, 1}}, false},
	} {
		wantHolds(t, call("PosFirst", c.u), impl.PosFirst(c.u), c.first)
	}
}

// P67.

func TestPromise67(t *testing.T) {
	for _, height := range sides {
		for _, width := range sides {
			for _, u := range [][][]int{filled(height, width, 0), filled(height, width, -30), sample(height, width, 30, height+width), partOf(strictSix, 1<<height-1, 1<<width-1)} {
				n, ok := impl.PosFirstCount(u)
				wantValue(t, call("PosFirstCount", u), n, ok, height*width)
			}
		}
	}
}

// P68.

func TestPromise68(t *testing.T) {
	check := func(x []int) {
		n := changes(t, x)
		if n != changesOf(x) || n >= len(x) && len(x) > 0 {
			t.Errorf("PosChanges(%v) is %d", x, n)
		}
		back := []int{}
		for _, number := range slices.Backward(x) {
			back = append(back, -number)
		}
		if m := changes(t, back); m != n {
			t.Errorf("PosChanges(%v) is %d, and that of it backwards with all signs turned %d", x, n, m)
		}
	}
	for count := range 9 {
		for _, x := range allLists(count, []int{-1, 0, 1000}) {
			check(x)
		}
	}
	for _, x := range allLists(12, []int{-1000, 3}) {
		check(x)
	}
	for count := range 13 {
		for seed := range 50 {
			check(sample(1, count, 1, seed)[0])
			check(sample(1, count, 1000, seed)[0])
			check(make([]int, count))
		}
	}
}

func TestPosChangesExamples(t *testing.T) {
	for _, c := range []struct {
		x []int
		n int
	}{
		{nil, 0}, {[]int{}, 0}, {[]int{0}, 0}, {[]int{5}, 0}, {[]int{-1000}, 0}, {[]int{1, -1}, 1}, {[]int{-1, 1}, 1}, {[]int{1, 1}, 0}, {[]int{-1, -2}, 0}, {[]int{0, 0, 0}, 0}, {make([]int, 12), 0},
		{[]int{1, 0, 1}, 0}, {[]int{1, 0, -1}, 1}, {[]int{-1, 0, 0, 1}, 1}, {[]int{-1, 0, 0, -1}, 0}, {[]int{0, 1, 0}, 0}, {[]int{0, -1, 0, 2, 0}, 1}, {[]int{1, -1, 1, -1}, 3}, {[]int{1, 0, -1, 0, 1}, 2},
		{[]int{1000, -1000}, 1}, {[]int{-1000, 1000, 1000, -1000}, 2}, {[]int{1, -1, 1, -1, 1, -1, 1, -1, 1, -1, 1, -1}, 11}, {[]int{1, -1, 1, -1, 1, -1, 1, -1, 1, -1, 1, 1}, 10}, {[]int{0, 0, 0, 0, 0, 0, 0, 0, 0, 0, -1, 1}, 1},
		{[]int{3, 2, 1, 0, -1, -2, -3}, 1}, {[]int{1, 0, 0, 0, 0, 0, 0, 0, 0, 0, 0, -1}, 1}, {[]int{-1, 0, 0, 0, 0, 0, 0, 0, 0, 0, 0, -1}, 0},
	} {
		n, ok := impl.PosChanges(c.x)
		wantValue(t, call("PosChanges", c.x), n, ok, c.n)
	}
}

// TestPosChangesOthers has lists that are too long, and numbers beyond the limits at each place.
func TestPosChangesOthers(t *testing.T) {
	for _, count := range []int{13, 14, 24, 64, 65, 1000, 100000} {
		for _, number := range []int{0, 1, -1000} {
			x := slices.Repeat([]int{number}, count)
			n, ok := impl.PosChanges(x)
			wantNoValue(t, call("PosChanges of many numbers", count, number), n, ok)
		}
	}
	for count := 1; count <= 12; count++ {
		for place := range count {
			for _, number := range []int{1001, -1001, 1002, 2000, math.MaxInt, math.MinInt, math.MinInt + 1, 1 << 32, -1 << 32} {
				x := sample(1, count, 1000, place)[0]
				x[place] = number
				n, ok := impl.PosChanges(x)
				wantNoValue(t, call("PosChanges", x), n, ok)
			}
			for _, number := range []int{1000, -1000, 0} {
				x := sample(1, count, 1000, place)[0]
				x[place] = number
				n, ok := impl.PosChanges(x)
				wantValue(t, call("PosChanges", x), n, ok, changesOf(x))
			}
		}
	}
}

// P69.

func TestPromise69(t *testing.T) {
	fewer, same, beyondLimits := 0, 0, 0
	small := [][][]int{nil}
	for width := 1; width <= 6; width++ {
		small = append(small, allLists(width, []int{-1, 0, 1}))
	}
	check := func(u [][]int, x []int) {
		y, ok := impl.PosTimes(u, x)
		wantList(t, call("PosTimes", u, x), y, ok, timesListOf(u, x))
		if after := changesOf(y); after < changes(t, x) {
			fewer++
		} else {
			same++
		}
		after, ok := impl.PosChanges(y)
		if !ok {
			// The sums are told even where they are beyond the numbers of which changes are counted.
			wantNoValue(t, call("PosChanges", y), after, ok)
			after = changesOf(y)
			beyondLimits++
		}
		if after > changes(t, x) {
			t.Errorf("%v changes %d times, and %v times it, %v, %d times", x, changes(t, x), u, y, after)
		}
	}
	for _, u := range append(stricts(), lastings()...) {
		if !impl.PosLasting(u) {
			t.Fatalf("PosLasting(%v) does not hold", u)
		}
		for i, x := range small[len(u[0])] {
			if len(small[len(u[0])]) < 100 || i%13 == len(u)%13 {
				check(u, x)
			}
		}
		for seed := range 12 {
			check(u, sample(1, len(u[0]), []int{3, 30}[seed%2], seed)[0])
		}
	}
	if fewer < 2000 || same < 2000 || beyondLimits < 200 {
		t.Errorf("only %d lists change less often after, %d as often, and %d are beyond the limits", fewer, same, beyondLimits)
	}
}

func TestPosTimesExamples(t *testing.T) {
	for _, c := range []struct {
		u       [][]int
		x, want []int
	}{
		{[][]int{{1, 2}, {3, 4}}, []int{5, 6}, []int{17, 39}}, {[][]int{{1, 2}, {3, 4}}, []int{0, 0}, []int{0, 0}}, {[][]int{{1, 2, 3}}, []int{1, -1, 1}, []int{2}}, {[][]int{{1}, {-2}, {3}}, []int{-4}, []int{-4, 8, -12}},
		{[][]int{{0}}, []int{30}, []int{0}}, {[][]int{{30}}, []int{-30}, []int{-900}}, {filled(6, 6, 30), []int{30, 30, 30, 30, 30, 30}, []int{5400, 5400, 5400, 5400, 5400, 5400}},
		{filled(2, 6, -30), []int{30, 30, 30, 30, 30, 30}, []int{-5400, -5400}}, {unit(6), []int{1, -2, 3, -4, 5, -30}, []int{1, -2, 3, -4, 5, -30}}, {[][]int{{1, 0, 0, 0, 0, 0}, {0, 0, 0, 0, 0, 1}}, []int{1, 2, 3, 4, 5, 6}, []int{1, 6}},
	} {
		y, ok := impl.PosTimes(c.u, c.x)
		wantList(t, call("PosTimes", c.u, c.x), y, ok, c.want)
	}
	for _, height := range sides {
		for _, width := range sides {
			for seed := range 20 {
				u, x := sample(height, width, 30, seed), sample(1, width, 30, seed+9)[0]
				y, ok := impl.PosTimes(u, x)
				wantList(t, call("PosTimes", u, x), y, ok, timesListOf(u, x))
			}
		}
	}
}

// TestPosTimesOthers has lists of too few and too many numbers, as many as there are rows among them, and numbers beyond the limits.
func TestPosTimesOthers(t *testing.T) {
	for _, height := range sides {
		for _, width := range sides {
			u := sample(height, width, 30, height+width)
			for _, count := range []int{0, 1, 2, 3, 4, 5, 6, 7, 12, 64, 1000} {
				if count == width {
					continue
				}
				y, ok := impl.PosTimes(u, make([]int, count))
				wantNoList(t, call("PosTimes", u, count), y, ok)
			}
			y, ok := impl.PosTimes(u, nil)
			wantNoList(t, call("PosTimes", u, "nil"), y, ok)
			for place := range width {
				for _, number := range []int{30, -30, 31, -31, 1000, math.MaxInt, math.MinInt, math.MinInt + 1, 1 << 32} {
					x := sample(1, width, 30, place)[0]
					x[place] = number
					y, ok := impl.PosTimes(u, x)
					if abs(number) == 30 {
						wantList(t, call("PosTimes", u, x), y, ok, timesListOf(u, x))
					} else {
						wantNoList(t, call("PosTimes", u, x), y, ok)
					}
				}
			}
		}
	}
}

// P70.

func TestPromise70(t *testing.T) {
	eachPositive(func(u [][]int) {
		x, rows, columns, ok := impl.PosWorst(u)
		minor, also := impl.ValueMinor(u, rows, columns)
		if !ok || !also || x != minor || rows == 0 {
			t.Errorf("%s returned %d, %d, %d, %v, and the minor is %d", call("PosWorst", u), x, rows, columns, ok, minor)
		}
		wantHolds(t, call("PosLasting for PosWorst", u), impl.PosLasting(u), x >= 0)
		wantHolds(t, call("PosStrict for PosWorst", u), impl.PosStrict(u), x > 0)
	})
}

// TestPosWorstExamples has worst minors that come at several sets: of different numbers of rows, of the same number
// with different rows, and with different columns alone.
func TestPosWorstExamples(t *testing.T) {
	for _, c := range []struct {
		u     [][]int
		worst [3]int
	}{
		{[][]int{{1, 2}, {3, 4}}, [3]int{-2, 3, 3}}, {[][]int{{5}}, [3]int{5, 1, 1}}, {[][]int{{-30}}, [3]int{-30, 1, 1}}, {[][]int{{0}}, [3]int{0, 1, 1}}, {[][]int{{1}}, [3]int{1, 1, 1}}, {[][]int{{30}}, [3]int{30, 1, 1}},
		{[][]int{{1, 1}, {1, 1}}, [3]int{0, 3, 3}}, {[][]int{{1, 1}, {1, 2}}, [3]int{1, 1, 1}}, {[][]int{{2, 1}, {3, 2}}, [3]int{1, 1, 2}}, {[][]int{{3, 2}, {2, 2}}, [3]int{2, 1, 2}}, {[][]int{{7, 9}, {3, 4}}, [3]int{1, 3, 3}},
		{[][]int{{1, 0}, {0, -1}}, [3]int{-1, 2, 2}}, {[][]int{{0, 1}, {1, 0}}, [3]int{-1, 3, 3}}, {[][]int{{4, -1}, {-1, 4}}, [3]int{-1, 1, 2}}, {[][]int{{4, 7}, {-1, -1}}, [3]int{-1, 2, 1}}, {[][]int{{-1, 4}, {4, -1}}, [3]int{-15, 3, 3}},
		{[][]int{{3, 1, 2, 1}}, [3]int{1, 1, 2}}, {[][]int{{3}, {1}, {2}, {1}}, [3]int{1, 2, 1}}, {[][]int{{3, 2, 2, 2, 9, 4}}, [3]int{2, 1, 2}}, {[][]int{{0, 0, 0, 0, 0, -1}}, [3]int{-1, 1, 32}}, {[][]int{{0}, {0}, {0}, {0}, {0}, {-1}}, [3]int{-1, 32, 1}},
		{filled(6, 6, 0), [3]int{0, 1, 1}}, {filled(6, 6, 1), [3]int{0, 3, 3}}, {filled(6, 6, -30), [3]int{-30, 1, 1}}, {unit(6), [3]int{0, 1, 2}}, {timesOf(unit(6), -1), [3]int{-1, 1, 1}}, {filled(1, 6, 30), [3]int{30, 1, 1}}, {filled(6, 1, 30), [3]int{30, 1, 1}},
		{[][]int{{1, 1, 2, 3}, {2, 2, 3, 5}}, [3]int{-1, 3, 5}}, {[][]int{{1, 0, 1, 0}, {0, 1, 0, -1}}, [3]int{-1, 2, 8}}, {[][]int{{1, 0, 1, 2}, {0, 1, 1, 0}}, [3]int{-2, 3, 10}},
		// The columns 1 and 2 are ahead of 0 and 3, as their number 6 is less than 9; and so are rows.
		{[][]int{{0, 1, 1, 2}, {1, 2, 0, 2}}, [3]int{-2, 3, 6}}, {[][]int{{0, 1}, {1, 2}, {1, 0}, {2, 2}}, [3]int{-2, 6, 3}},
	} {
		wantWorst(t, c.u, c.worst)
	}
}

// TestPosWorstOrder has tables with their worst minor at the sets 6 and 9 of two, of rows and of columns, and at none
// between them: the set 6 comes first, though 0 comes before 1.
func TestPosWorstOrder(t *testing.T) {
	found := 0
	allTables(2, 4, []int{0, 1, 2}, func(u [][]int) {
		m := minorsBySets(u)[3]
		least := slices.Min(m)
		if least < 0 && m[6] == least && m[9] == least && m[3] > least && m[5] > least {
			found++
			wantWorst(t, u, [3]int{least, 3, 6})
			wantWorst(t, turned(u), [3]int{least, 6, 3})
		}
	})
	if found < 5 {
		t.Errorf("only %d tables have their worst minor at 6 and 9", found)
	}
}

// P71.

func TestPromise71(t *testing.T) {
	lasting, others := 0, 0
	eachNet(func(m net) {
		x, ok := impl.NetTable(m.n, m.chips)
		switch {
		case ok && !hasNegative(m.chips):
			lasting++
			wantHolds(t, call("PosLasting of the table of", m), impl.PosLasting(x), true)
		case ok && !impl.PosLasting(x):
			others++
		}
	})
	for _, n := range lineCounts {
		for count := range 11 {
			for seed := range 30 {
				m := sampleNet(n, count, []int{1, 2, 1, 0, 3}, seed+400)
				if x, ok := impl.NetTable(n, m.chips); ok {
					lasting++
					wantHolds(t, call("PosLasting of the table of", m), impl.PosLasting(x), true)
				}
			}
		}
	}
	if lasting < 1000 || others < 500 {
		t.Errorf("only %d tables of nets with no negative weight are lasting, and %d others are not", lasting, others)
	}
}

// Memory and arguments.

func TestPositiveMemory(t *testing.T) {
	for _, height := range sides {
		for _, width := range sides {
			u, x := sample(height, width, 30, height+width), sample(1, width, 30, height)
			checkMemory(t, "PosTimes", [][][]int{u, x}, func(a [][][]int) ([][]int, bool) {
				y, ok := impl.PosTimes(a[0], a[1][0])
				return [][]int{y}, ok
			})
			checkMemory(t, "PosTimes of one of its rows", [][][]int{u}, func(a [][][]int) ([][]int, bool) {
				y, ok := impl.PosTimes(a[0], a[0][height-1])
				return [][]int{y}, ok
			})
		}
	}
}

// callPositives calls all functions of the chapter and returns what they return.
func callPositives(u [][]int, x []int) []any {
	results := []any{impl.PosLasting(u), impl.PosStrict(u), impl.PosFirst(u)}
	n, ok := impl.PosFirstCount(u)
	count, also := impl.PosChanges(x)
	y, too := impl.PosTimes(u, x)
	least, rows, columns, told := impl.PosWorst(u)
	return append(results, n, ok, count, also, y, too, least, rows, columns, told)
}

// TestPositivesKeepArguments calls all functions, also for what makes them fail.
func TestPositivesKeepArguments(t *testing.T) {
	all := append(minorTables(), strictSix, filled(7, 7, 1), [][]int{}, [][]int{{1}, {}}, [][]int{{31}})
	for i, u := range append(all, lastings()...) {
		a := loose(u)
		before := wholeOf(a)
		for _, count := range []int{0, 1, 3, 6, 12, 13} {
			x := loose([][]int{sample(1, count, 30, i)[0]})
			list := wholeOf(x)
			if !reflect.DeepEqual(callPositives(a, x[0]), callPositives(a, x[0])) {
				t.Errorf("two calls for %v and %v differ", u, x[0])
			}
			if !reflect.DeepEqual(wholeOf(x), list) {
				t.Errorf("the argument %v has changed", list)
			}
		}
		if !reflect.DeepEqual(wholeOf(a), before) {
			t.Errorf("the argument %v has changed", u)
		}
	}
}

// TestPositivesOfSharedRows uses one row as several rows, and as the numbers.
func TestPositivesOfSharedRows(t *testing.T) {
	row := []int{2, 3}
	shared := [][]int{row, row}
	wantJudged(t, shared, judge([][]int{{2, 3}, {2, 3}}))
	y, ok := impl.PosTimes(shared, row)
	wantList(t, "PosTimes of one row three times", y, ok, []int{13, 13})
	scribble(y)
	wantTable(t, "one row", [][]int{row}, true, [][]int{{2, 3}})
}
