package tests

import (
	"fmt"
	"math"
	"reflect"
	"testing"

	"loop.example/tableminors/impl"
)

// mark stands behind the ends of arguments, and is written over results: no table has it as an entry.
const mark = 987654321

// sides are the numbers of rows and columns that a table may have.
var sides = []int{1, 2, 3, 4, 5, 6}

// sizes are numbers that are beyond all limits, or just so for some.
var sizes = []int{math.MinInt, math.MinInt + 1, -1 << 32, -1000, -64, -32, -31, -7, -2, -1,
	6, 7, 8, 31, 32, 62, 63, 64, 65, 1000, 1 << 32, 1 << 62, math.MaxInt - 1, math.MaxInt}

// sample returns a table whose entries are from -limit to limit and look mixed; each seed leads to another one.
func sample(height, width, limit, seed int) [][]int {
	state := uint32(seed*7919 + height*101 + width*13 + limit)
	t := make([][]int, height)
	for i := range t {
		t[i] = make([]int, width)
		for k := range t[i] {
			state = state*1664525 + 1013904223
			t[i][k] = int(state>>8)%(2*limit+1) - limit
		}
	}
	return t
}

// samples returns tables of all sides, with small entries, large ones, and the greatest ones.
func samples() [][][]int {
	var all [][][]int
	for _, height := range sides {
		for _, width := range sides {
			for seed, limit := range []int{1, 2, 5, 15, 30} {
				all = append(all, sample(height, width, limit, seed))
			}
			all = append(all, filled(height, width, impl.EntryMax), filled(height, width, -impl.EntryMax), filled(height, width, 0))
		}
	}
	return all
}

// filled returns the table with the same entry everywhere.
func filled(height, width, entry int) [][]int {
	t := make([][]int, height)
	for i := range t {
		t[i] = make([]int, width)
		for k := range t[i] {
			t[i][k] = entry
		}
	}
	return t
}

// noTables returns lists of lists that are no tables.
func noTables() [][][]int {
	with := func(entry int) [][]int {
		t := filled(3, 2, 1)
		t[2][1] = entry
		return t
	}
	first := filled(2, 2, 1)
	first[0][0] = impl.EntryMax + 1
	return [][][]int{
		nil, {}, {nil}, {{}}, {{}, {}}, {nil, nil, nil}, {{}, {1}}, {{1}, {}}, {{1}, nil},
		{{1}, {1, 2}}, {{1, 2}, {3}}, {{1, 2}, {3, 4}, {5}}, {{1, 2}, {3, 4}, {5, 6, 7}}, {{1, 2}, {3, 4, 5}, {6, 7}},
		filled(7, 1, 1), filled(7, 7, 0), filled(1, 7, 1), filled(6, 7, 0), filled(7, 6, 0), filled(64, 1, 0), filled(65, 2, 0),
		filled(1000, 1, 1), filled(1, 1000, 1), filled(300, 300, 1), {{1}, make([]int, 100000)}, {make([]int, 100000), {1}},
		with(impl.EntryMax + 1), with(-impl.EntryMax - 1), with(math.MaxInt), with(math.MinInt), with(math.MinInt + 1), with(1 << 32), first,
		{{impl.EntryMax + 1}}, {{-impl.EntryMax - 1}}, {{math.MinInt}}, {{math.MaxInt}},
	}
}

// same compares lists of lists, nil and empty ones being the same.
func same(t, u [][]int) bool {
	if len(t) != len(u) {
		return false
	}
	for i := range t {
		if len(t[i]) != len(u[i]) {
			return false
		}
		for k := range t[i] {
			if t[i][k] != u[i][k] {
				return false
			}
		}
	}
	return true
}

// turned exchanges rows and columns.
func turned(t [][]int) [][]int {
	u := filled(len(t[0]), len(t), 0)
	for i := range t {
		for k := range t[i] {
			u[k][i] = t[i][k]
		}
	}
	return u
}

// within tells whether all entries are within the limits, for lists that have the sides of a table.
func within(t [][]int) bool {
	for _, row := range t {
		for _, entry := range row {
			if entry < -30 || entry > 30 {
				return false
			}
		}
	}
	return true
}

// wantTable reports a result that is not the table told.
func wantTable(t *testing.T, what string, x [][]int, ok bool, want [][]int) {
	t.Helper()
	if !ok || !same(x, want) {
		t.Errorf("%s returned %v, %v; want %v, true", what, x, ok, want)
	}
}

// wantFailure reports a result that is not the zero value and false.
func wantFailure(t *testing.T, what string, x [][]int, ok bool) {
	t.Helper()
	if ok || len(x) != 0 {
		t.Errorf("%s returned %v, %v; want a failure", what, x, ok)
	}
}

// wantIf reports a result that is not the rows told if these are within the limits, or not a failure if they are not.
func wantIf(t *testing.T, what string, x [][]int, ok bool, rows [][]int) {
	t.Helper()
	if within(rows) {
		wantTable(t, what, x, ok, rows)
	} else {
		wantFailure(t, what, x, ok)
	}
}

// call names a function with its arguments, for messages.
func call(name string, args ...any) string {
	return name + fmt.Sprintf("%v", args)
}

// loose returns a copy of a list of lists in which memory with marks stands behind the end of each list.
func loose(t [][]int) [][]int {
	u := make([][]int, 0, len(t)+3)
	for _, row := range t {
		r := append(make([]int, 0, len(row)+3), row...)
		for k := range r[:cap(r)] {
			if k >= len(r) {
				r[:cap(r)][k] = mark
			}
		}
		u = append(u, r)
	}
	for i := len(u); i < cap(u); i++ {
		u[:cap(u)][i] = []int{mark}
	}
	return u
}

// wholeOf returns what a list of lists has up to its capacity and that of its rows, as a copy.
func wholeOf(t [][]int) [][]int {
	u := [][]int{}
	for _, row := range t[:cap(t)] {
		u = append(u, append([]int{}, row[:cap(row)]...))
	}
	return u
}

// scribble writes marks over the whole memory of one row of a result.
func scribble(row []int) {
	for k := range row[:cap(row)] {
		row[:cap(row)][k] = mark
	}
}

// checkMemory calls a function with loose copies of tables and reports whether it changes them, and whether
// its result shares memory with them, with another result, or among its own rows.
func checkMemory(t *testing.T, what string, tables [][][]int, function func(args [][][]int) ([][]int, bool)) {
	t.Helper()
	args := [][][]int{}
	before := [][][]int{}
	for _, u := range tables {
		args = append(args, loose(u))
		before = append(before, wholeOf(args[len(args)-1]))
	}
	kept := func(when string) {
		t.Helper()
		for i := range args {
			if !reflect.DeepEqual(wholeOf(args[i]), before[i]) {
				t.Fatalf("%s: an argument has changed after %s", what, when)
			}
		}
	}
	x, ok := function(args)
	kept("the call")
	y, again := function(args)
	kept("the second call")
	want := wholeOf(y)[:len(y)]
	if !ok || !again || len(x) == 0 || !same(x, y) {
		t.Fatalf("%s returned %v, %v, then %v, %v", what, x, ok, y, again)
	}
	for i := range x {
		rest := make([][]int, len(x))
		for k := i + 1; k < len(x); k++ {
			rest[k] = append([]int{}, x[k]...)
		}
		scribble(x[i])
		kept("writing over a row of the result")
		for k := i + 1; k < len(x); k++ {
			if !reflect.DeepEqual(x[k], rest[k]) {
				t.Fatalf("%s: rows %d and %d of the result share memory", what, i, k)
			}
		}
	}
	for i := range x[:cap(x)] {
		x[:cap(x)][i] = nil
	}
	kept("writing over the result")
	if !reflect.DeepEqual(wholeOf(y)[:len(y)], want) {
		t.Fatalf("%s: two results share memory", what)
	}
	z, ok := function(args)
	if !ok || !same(z, y) {
		t.Fatalf("%s returned %v, then %v, %v", what, y, z, ok)
	}
}
