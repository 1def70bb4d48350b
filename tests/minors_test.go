package tests

import (
	"math"
	"reflect"
	"runtime"
	"strings"
	"sync"
	"testing"

	"loop.example/tableminors/impl"
)

// setsOf returns the sets of k of n, in their order.
func setsOf(n, k int) []int {
	all := []int{}
	for set := range 1 << n {
		if members(set) == k {
			all = append(all, set)
		}
	}
	return all
}

// minorsOf returns the minors by sets of rows and sets of columns, by fractions.
func minorsOf(u [][]int, rowSets, columnSets []int) [][]int {
	m := [][]int{}
	for _, rows := range rowSets {
		row := []int{}
		for _, columns := range columnSets {
			row = append(row, valueOf(partOf(u, rows, columns)))
		}
		m = append(m, row)
	}
	return m
}

func kthMinorsOf(u [][]int, k int) [][]int {
	return minorsOf(u, setsOf(len(u), k), setsOf(len(u[0]), k))
}

// lesser returns the lesser number of rows and columns.
func lesser(u [][]int) int {
	return min(len(u), len(u[0]))
}

func abs(x int) int {
	if x < 0 {
		return -x
	}
	return x
}

// divisorOf returns the greatest number that divides all numbers, 0 if all are 0.
func divisorOf(m [][]int) int {
	d := 0
	for _, row := range m {
		for _, x := range row {
			for x = abs(x); x != 0; {
				d, x = x, d%x
			}
		}
	}
	return d
}

func powerOf(x, n int) int {
	p := 1
	for range n {
		p *= x
	}
	return p
}

// minorTables returns tables of all sides whose minors are few enough to be found by fractions: mixed ones, some
// with many 0, those of small rank, those with common divisors, and those with the greatest entries.
func minorTables() [][][]int {
	all := [][][]int{greatSquare(), unit(6), timesOf(unit(6), -30)}
	for _, height := range sides {
		for _, width := range sides {
			seed := height*6 + width
			all = append(all, filled(height, width, 0), filled(height, width, 30), filled(height, width, -30),
				sample(height, width, 1, seed), sample(height, width, 30, seed), timesOf(sample(height, width, 2, seed), -6))
			for rank := 1; rank < min(height, width); rank += 2 {
				all = append(all, lowRank(height, width, rank, seed))
			}
			last := filled(height, width, 0)
			last[height-1][width-1] = -4
			steps := filled(height, width, 0)
			for i := range min(height, width) {
				steps[i][width-1-i] = []int{6, 4, -10, 15, 12, 0}[(i+seed)%6]
			}
			all = append(all, last, steps)
		}
	}
	return all
}

func squaresOf(all [][][]int) [][][]int {
	only := [][][]int{}
	for _, u := range all {
		if len(u) == len(u[0]) {
			only = append(only, u)
		}
	}
	return only
}

// beyond returns numbers that are not from 0 to most, those just beyond among them.
func beyond(most int) []int {
	all := []int{-1, -2, most + 1, most + 2}
	for _, k := range sizes {
		if k < 0 || k > most {
			all = append(all, k)
		}
	}
	return all
}

func minorTable(t *testing.T, u [][]int, k int) [][]int {
	t.Helper()
	m, ok := impl.MinorTable(u, k)
	if !ok {
		t.Errorf("%s failed", call("MinorTable", u, k))
	}
	return m
}

func wantText(t *testing.T, what string, x string, ok bool, want string) {
	t.Helper()
	if !ok || x != want {
		t.Errorf("%s returned %q, %v; want %q, true", what, x, ok, want)
	}
}

func wantMost(t *testing.T, u [][]int, k int, want [3]int) {
	t.Helper()
	most, rows, columns, ok := impl.MinorMost(u, k)
	if got := [3]int{most, rows, columns}; !ok || got != want {
		t.Errorf("%s returned %v, %v; want %v, true", call("MinorMost", u, k), got, ok, want)
	}
}

// wantFactors checks MinorFactors as a list of one row, so that nil and empty lists are the same.
func wantFactors(t *testing.T, u [][]int, want []int) {
	t.Helper()
	x, ok := impl.MinorFactors(u)
	wantTable(t, call("MinorFactors", u), [][]int{x}, ok, [][]int{want})
}

// wantNoMinors calls the functions of a table and k that have to fail.
func wantNoMinors(t *testing.T, u [][]int, k int) {
	t.Helper()
	x, ok := impl.MinorTable(u, k)
	wantFailure(t, call("MinorTable", len(u), k), x, ok)
	v, ok := impl.MinorCount(u, k)
	wantNoValue(t, call("MinorCount", len(u), k), v, ok)
	v, ok = impl.MinorDivisor(u, k)
	wantNoValue(t, call("MinorDivisor", len(u), k), v, ok)
	text, ok := impl.MinorSigns(u, k)
	if ok || text != "" {
		t.Errorf("%s returned %q, %v", call("MinorSigns", len(u), k), text, ok)
	}
	most, rows, columns, ok := impl.MinorMost(u, k)
	if ok || most != 0 || rows != 0 || columns != 0 {
		t.Errorf("%s returned %d, %d, %d, %v", call("MinorMost", len(u), k), most, rows, columns, ok)
	}
}

func wantNoMiddle(t *testing.T, u [][]int, k int) {
	t.Helper()
	v, ok := impl.MinorMiddle(u, k)
	wantNoValue(t, call("MinorMiddle", len(u), k), v, ok)
}

func wantNoAround(t *testing.T, u [][]int, k int) {
	t.Helper()
	x, ok := impl.MinorAround(u, k)
	wantFailure(t, call("MinorAround", len(u), k), x, ok)
}

// The rules for all functions: what is no table, no square, or beyond the range of k.

func TestMinorsOfNoTable(t *testing.T) {
	for _, u := range noTables() {
		for _, k := range append([]int{0, 1, 2, 3, 4, 5, 6, 7, len(u)}, sizes...) {
			wantNoMinors(t, u, k)
			wantNoMiddle(t, u, k)
			wantNoAround(t, u, k)
		}
		x, ok := impl.MinorFactors(u)
		wantFailure(t, "MinorFactors of no table", [][]int{x}[:len(x)], ok)
	}
}

func TestMinorsBeyondRange(t *testing.T) {
	for _, u := range minorTables() {
		for _, k := range beyond(lesser(u)) {
			wantNoMinors(t, u, k)
		}
		if len(u) != len(u[0]) {
			for _, k := range append([]int{0, 1, lesser(u)}, beyond(lesser(u))...) {
				wantNoMiddle(t, u, k)
				wantNoAround(t, u, k)
			}
			continue
		}
		for _, k := range beyond(len(u)) {
			wantNoMiddle(t, u, k)
		}
		for _, k := range beyond(len(u) - 1) {
			wantNoAround(t, u, k)
		}
	}
}

// TestMinorsAtLimits has tables just within the limits and just beyond them.
func TestMinorsAtLimits(t *testing.T) {
	for _, n := range []int{6, 7} {
		for _, entry := range []int{30, -30, 31, -31} {
			u := unit(n)
			u[n-1][n-1] = entry
			if n == 7 || abs(entry) == 31 {
				wantNoMinors(t, u, 6)
				wantNoMiddle(t, u, 6)
				wantNoAround(t, u, 5)
				x, ok := impl.MinorFactors(u)
				wantFailure(t, call("MinorFactors", u), [][]int{x}[:len(x)], ok)
				continue
			}
			wantTable(t, call("MinorTable", u, 6), minorTable(t, u, 6), true, [][]int{{entry}})
			v, ok := impl.MinorMiddle(u, 6)
			wantValue(t, call("MinorMiddle", u, 6), v, ok, entry)
			x, ok := impl.MinorAround(u, 5)
			wantTable(t, call("MinorAround", u, 5), x, ok, [][]int{{entry}})
			wantFactors(t, u, []int{1, 1, 1, 1, 1, 30})
		}
	}
}

// TestMinorsOfNoRows asks for minors of no rows, of tables of all sides.
func TestMinorsOfNoRows(t *testing.T) {
	for _, u := range append(minorTables(), [][]int{{0}}, [][]int{{-7}}) {
		wantTable(t, call("MinorTable", u, 0), minorTable(t, u, 0), true, [][]int{{1}})
		v, ok := impl.MinorCount(u, 0)
		wantValue(t, call("MinorCount", u, 0), v, ok, 1)
		v, ok = impl.MinorDivisor(u, 0)
		wantValue(t, call("MinorDivisor", u, 0), v, ok, 1)
		text, ok := impl.MinorSigns(u, 0)
		wantText(t, call("MinorSigns", u, 0), text, ok, "+")
		wantMost(t, u, 0, [3]int{1, 0, 0})
		if len(u) == len(u[0]) {
			v, ok = impl.MinorMiddle(u, 0)
			wantValue(t, call("MinorMiddle", u, 0), v, ok, 1)
			x, ok := impl.MinorAround(u, 0)
			wantTable(t, call("MinorAround", u, 0), x, ok, u)
		}
	}
}

// P26.

func TestPromise26(t *testing.T) {
	for _, u := range minorTables() {
		for k := 0; k <= lesser(u); k++ {
			m := minorTable(t, u, k)
			wantTable(t, call("MinorTable", u, k), m, true, kthMinorsOf(u, k))
			if x, ok := impl.TableTurn(u); !ok || !same(turned(m), minorTable(t, x, k)) {
				t.Errorf("%s is %v, and turned %v", call("MinorTable", u, k), m, minorTable(t, x, k))
			}
		}
		wantTable(t, call("MinorTable", u, 1), minorTable(t, u, 1), true, u)
	}
}

func TestMinorTableExamples(t *testing.T) {
	for _, c := range []struct {
		u    [][]int
		k    int
		want [][]int
	}{
		{[][]int{{1, 2, 3}, {4, 5, 6}}, 2, [][]int{{-3, -6, -3}}},
		{[][]int{{1, 4}, {2, 5}, {3, 6}}, 2, [][]int{{-3}, {-6}, {-3}}},
		{[][]int{{1, 2, 3}, {4, 5, 6}, {7, 8, 10}}, 2, [][]int{{-3, -6, -3}, {-6, -11, -4}, {-3, -2, 2}}},
		{[][]int{{1, 2, 3}, {4, 5, 6}, {7, 8, 10}}, 3, [][]int{{-3}}},
		{[][]int{{2, 0, 0, 0}, {0, 3, 0, 0}, {0, 0, 5, 0}, {0, 0, 0, 7}}, 3, [][]int{{30, 0, 0, 0}, {0, 42, 0, 0}, {0, 0, 70, 0}, {0, 0, 0, 105}}},
		{[][]int{{5}}, 1, [][]int{{5}}}, {[][]int{{0}}, 1, [][]int{{0}}}, {[][]int{{1, 2, 3}}, 1, [][]int{{1, 2, 3}}},
		{[][]int{{1, 2}, {2, 4}}, 2, [][]int{{0}}}, {[][]int{{30, 30}, {-30, 30}}, 2, [][]int{{1800}}},
		{greatSquare(), 6, [][]int{{160 * 729000000}}},
	} {
		wantTable(t, call("MinorTable", c.u, c.k), minorTable(t, c.u, c.k), true, c.want)
	}
	for _, k := range []int{1, 2, 3, 4, 5, 6} {
		wantTable(t, call("MinorTable", "unit", k), minorTable(t, unit(6), k), true, unit(len(setsOf(6, k))))
	}
}

// P27.

func TestPromise27(t *testing.T) {
	checked := 0
	for _, height := range sides {
		for _, middle := range sides {
			for _, width := range sides {
				for seed := range 4 {
					u, w := sample(height, middle, 1+seed, seed), sample(middle, width, 1+seed%2, seed+20)
					x, ok := impl.TableMake(u, w)
					if !ok {
						continue
					}
					for k := 0; k <= min(height, middle, width); k++ {
						m := minorTable(t, x, k)
						if want := productOf(minorTable(t, u, k), minorTable(t, w, k)); !same(m, want) {
							t.Errorf("%s is %v; the product of those of %v and %v is %v", call("MinorTable", x, k), m, u, w, want)
						}
						checked++
					}
					if middle < 2 {
						wantNoMinors(t, u, 2)
						wantNoMinors(t, w, 2)
					}
				}
			}
		}
	}
	if checked < 500 {
		t.Errorf("only %d products", checked)
	}
}

// P28.

func TestPromise28(t *testing.T) {
	checked := 0
	for n := 1; n <= 4; n++ {
		for seed := range 60 {
			for _, u := range [][][]int{sample(n, n, 1, seed), sample(n, n, 2, seed), sample(n, n, 1+seed%30, seed), lowRank(n, n, 1+seed%n, seed)} {
				for k := 1; k <= min(n, 2); k++ {
					m := minorTable(t, u, k)
					if !impl.TableIn(m) {
						continue
					}
					checked++
					if want := powerOf(value(t, u), len(setsOf(n-1, k-1))); value(t, m) != want {
						t.Errorf("%s has the value %d; want %d", call("MinorTable", u, k), value(t, m), want)
					}
				}
			}
		}
	}
	if checked < 1000 {
		t.Errorf("only %d lists of minors are tables", checked)
	}
}

// P29.

func TestPromise29(t *testing.T) {
	for _, u := range minorTables() {
		for k := 0; k <= lesser(u); k++ {
			n, ok := impl.MinorCount(u, k)
			want := 0
			for _, row := range kthMinorsOf(u, k) {
				for _, x := range row {
					if x != 0 {
						want++
					}
				}
			}
			wantValue(t, call("MinorCount", u, k), n, ok, want)
			if (n == 0) != (k > rank(t, u)) {
				t.Errorf("%s is %d, the rank is %d", call("MinorCount", u, k), n, rank(t, u))
			}
		}
	}
}

func TestMinorCountExamples(t *testing.T) {
	for _, c := range []struct {
		u       [][]int
		k, want int
	}{
		{[][]int{{1, 2}, {2, 4}}, 1, 4}, {[][]int{{1, 2}, {2, 4}}, 2, 0}, {[][]int{{0, -2}, {0, 4}}, 1, 2},
		{filled(6, 6, 0), 1, 0}, {filled(6, 6, 0), 6, 0}, {filled(6, 6, 0), 0, 1}, {filled(6, 6, -30), 1, 36}, {filled(6, 6, -30), 2, 0},
		{unit(6), 3, 20}, {unit(6), 6, 1}, {[][]int{{1, 2, 3}, {4, 5, 6}}, 2, 3}, {[][]int{{0}}, 1, 0}, {[][]int{{-1}}, 1, 1},
	} {
		n, ok := impl.MinorCount(c.u, c.k)
		wantValue(t, call("MinorCount", c.u, c.k), n, ok, c.want)
	}
}

// P30.

func TestPromise30(t *testing.T) {
	for _, u := range minorTables() {
		for k := 0; k <= lesser(u); k++ {
			d, ok := impl.MinorDivisor(u, k)
			wantValue(t, call("MinorDivisor", u, k), d, ok, divisorOf(kthMinorsOf(u, k)))
			other, ok := impl.MinorDivisor(turned(u), k)
			wantValue(t, call("MinorDivisor", turned(u), k), other, ok, d)
			if d < 0 {
				t.Errorf("%s is %d", call("MinorDivisor", u, k), d)
			}
			next, ok := impl.MinorDivisor(u, k+1)
			if ok != (k < lesser(u)) {
				t.Errorf("%s returned %v", call("MinorDivisor", u, k+1), ok)
			}
			if ok && next != 0 && (d == 0 || next%d != 0) {
				t.Errorf("MinorDivisor of %v is %d for %d and %d for the next", u, d, k, next)
			}
		}
	}
}

func TestMinorDivisorExamples(t *testing.T) {
	for _, c := range []struct {
		u       [][]int
		k, want int
	}{
		{[][]int{{0}}, 1, 0}, {[][]int{{-7}}, 1, 7}, {[][]int{{7}}, 1, 7}, {[][]int{{-12, 18}}, 1, 6}, {[][]int{{18}, {-12}}, 1, 6}, {[][]int{{0, -9}, {0, 0}}, 1, 9},
		{[][]int{{2, 4}, {6, 8}}, 1, 2}, {[][]int{{2, 4}, {6, 8}}, 2, 8}, {[][]int{{1, 2}, {2, 4}}, 2, 0}, {filled(6, 6, -30), 1, 30}, {filled(6, 6, 0), 3, 0},
		{timesOf(unit(6), -30), 6, 729000000}, {[][]int{{4, 0}, {0, 6}}, 1, 2}, {[][]int{{4, 0}, {0, -6}}, 2, 24},
	} {
		d, ok := impl.MinorDivisor(c.u, c.k)
		wantValue(t, call("MinorDivisor", c.u, c.k), d, ok, c.want)
	}
}

// P31.

func TestPromise31(t *testing.T) {
	for _, u := range minorTables() {
		x, ok := impl.MinorFactors(u)
		if !ok || len(x) != rank(t, u) {
			t.Errorf("%s returned %v, %v; the rank is %d", call("MinorFactors", u), x, ok, rank(t, u))
			continue
		}
		wantFactors(t, turned(u), x)
		ahead := 1
		for i, f := range x {
			d := divisorOf(kthMinorsOf(u, i+1))
			if f <= 0 || f*ahead != d {
				t.Errorf("%s is %v; the divisors are %d and %d at %d", call("MinorFactors", u), x, ahead, d, i)
			}
			if i > 0 && f%x[i-1] != 0 {
				t.Errorf("%s is %v", call("MinorFactors", u), x)
			}
			ahead = d
		}
	}
}

func TestMinorFactorsExamples(t *testing.T) {
	for _, c := range []struct {
		u    [][]int
		want []int
	}{
		{[][]int{{0}}, nil}, {[][]int{{-7}}, []int{7}}, {filled(6, 6, 0), nil}, {filled(1, 6, 0), nil}, {filled(6, 6, -30), []int{30}}, {[][]int{{4, -6, 10}}, []int{2}},
		{[][]int{{2, 4}, {6, 8}}, []int{2, 4}}, {[][]int{{4, 0}, {0, 6}}, []int{2, 12}}, {[][]int{{1, 2}, {2, 4}}, []int{1}}, {[][]int{{0, 3}, {0, 0}}, []int{3}},
		{[][]int{{6, 0, 0}, {0, 10, 0}, {0, 0, 15}}, []int{1, 30, 30}}, {[][]int{{1, 2, 3}, {4, 5, 6}}, []int{1, 3}}, {[][]int{{2, 4, 4}, {-6, 6, 12}, {10, -4, -16}}, []int{2, 6, 12}},
		{unit(6), []int{1, 1, 1, 1, 1, 1}}, {timesOf(unit(6), -30), []int{30, 30, 30, 30, 30, 30}},
	} {
		wantFactors(t, c.u, c.want)
	}
}

// P32.

func TestPromise32(t *testing.T) {
	added := 0
	for _, u := range minorTables() {
		factors, ok := impl.MinorFactors(u)
		if !ok {
			t.Errorf("%s failed", call("MinorFactors", u))
		}
		for from := range u {
			for to := range u {
				for _, k := range []int{-2, 1, 3} {
					x, ok := impl.TableAdd(u, from, to, k)
					if ok {
						wantFactors(t, x, factors)
						added++
					}
				}
			}
		}
	}
	if added < 1000 {
		t.Errorf("only %d rows added", added)
	}
}

// P33.

func TestPromise33(t *testing.T) {
	for _, u := range append(squaresOf(minorTables()), [][]int{{0}}, [][]int{{-30}}) {
		for k := 0; k <= len(u); k++ {
			want := 0
			for _, set := range setsOf(len(u), k) {
				want += valueOf(partOf(u, set, set))
			}
			v, ok := impl.MinorMiddle(u, k)
			wantValue(t, call("MinorMiddle", u, k), v, ok, want)
			other, ok := impl.MinorMiddle(turned(u), k)
			wantValue(t, call("MinorMiddle", turned(u), k), other, ok, v)
		}
		trace, ok := impl.ValueTrace(u)
		v, ok1 := impl.MinorMiddle(u, 1)
		if !ok || !ok1 || v != trace {
			t.Errorf("MinorMiddle(%v, 1) is %d; the trace is %d", u, v, trace)
		}
		v, ok = impl.MinorMiddle(u, len(u))
		wantValue(t, call("MinorMiddle", u, len(u)), v, ok, value(t, u))
	}
}

func TestMinorMiddleExamples(t *testing.T) {
	u := [][]int{{2, 1, 1}, {1, 3, 1}, {1, 1, 4}}
	for k, want := range []int{1, 9, 23, 17} {
		v, ok := impl.MinorMiddle(u, k)
		wantValue(t, call("MinorMiddle", u, k), v, ok, want)
	}
	for k, want := range []int{1, 6 * 30, 15 * 900, 20 * 27000, 15 * 810000, 6 * 24300000, 729000000} {
		v, ok := impl.MinorMiddle(timesOf(unit(6), 30), k)
		wantValue(t, call("MinorMiddle", "30 times unit", k), v, ok, want)
	}
}

// P34.

func TestPromise34(t *testing.T) {
	checked := 0
	check := func(u [][]int) {
		n := len(u)
		for k := range n {
			x, ok := impl.MinorAround(u, k)
			sets := []int{}
			for further := k; further < n; further++ {
				sets = append(sets, 1<<k-1+1<<further)
			}
			wantTable(t, call("MinorAround", u, k), x, ok, minorsOf(u, sets, sets))
			if !impl.TableIn(x) {
				continue
			}
			checked++
			first, ok := impl.ValueMinor(u, 1<<k-1, 1<<k-1)
			if want := value(t, u) * powerOf(first, n-k-1); !ok || value(t, x) != want {
				t.Errorf("%s is %v; its value is %d, want %d", call("MinorAround", u, k), x, value(t, x), want)
			}
		}
	}
	for _, u := range squaresOf(minorTables()) {
		check(u)
	}
	for _, n := range sides {
		for seed := range 30 {
			check(sample(n, n, 1+seed%3, seed+70))
		}
	}
	if checked < 500 {
		t.Errorf("only %d results are tables", checked)
	}
}

func TestMinorAroundExamples(t *testing.T) {
	u := [][]int{{2, 1, 1}, {1, 3, 1}, {5, 1, 4}}
	for k, want := range [][][]int{u, {{5, 1}, {-3, 3}}, {{9}}} {
		x, ok := impl.MinorAround(u, k)
		wantTable(t, call("MinorAround", u, k), x, ok, want)
	}
	for _, entry := range []int{0, 5, -30} {
		x, ok := impl.MinorAround([][]int{{entry}}, 0)
		wantTable(t, call("MinorAround", entry, 0), x, ok, [][]int{{entry}})
		wantNoAround(t, [][]int{{entry}}, 1)
	}
	x, ok := impl.MinorAround(timesOf(unit(6), 30), 3)
	wantTable(t, "MinorAround of 30 times unit", x, ok, timesOf(unit(3), 810000))
}

// P35.

func TestPromise35(t *testing.T) {
	for _, u := range minorTables() {
		for k := 0; k <= lesser(u); k++ {
			text, ok := impl.MinorSigns(u, k)
			want := []byte{}
			for _, row := range kthMinorsOf(u, k) {
				for _, x := range row {
					want = append(want, "-0+"[min(max(x, -1), 1)+1])
				}
			}
			what := call("MinorSigns", u, k)
			wantText(t, what, text, ok, string(want))
			if all := len(setsOf(len(u), k)) * len(setsOf(len(u[0]), k)); len(text) != all {
				t.Errorf("%s returned %q; there are %d minors", what, text, all)
			}
			n, ok := impl.MinorCount(u, k)
			wantValue(t, "the number of signs of "+what, len(text)-strings.Count(text, "0"), ok, n)
		}
	}
}

func TestMinorSignsExamples(t *testing.T) {
	for _, c := range []struct {
		u    [][]int
		k    int
		want string
	}{
		{[][]int{{1, -2}, {0, 4}}, 1, "+-0+"}, {[][]int{{1, -2}, {0, 4}}, 2, "+"}, {[][]int{{0, 1}, {1, 0}}, 2, "-"}, {[][]int{{1, 2}, {2, 4}}, 2, "0"},
		{[][]int{{1, 2, 3}, {4, 5, 6}, {7, 8, 10}}, 2, "--------+"}, {[][]int{{0, 0, -30}}, 1, "00-"}, {[][]int{{30}, {0}, {-1}}, 1, "+0-"}, {filled(6, 6, 0), 6, "0"},
		{unit(3), 2, "+000+000+"},
	} {
		text, ok := impl.MinorSigns(c.u, c.k)
		wantText(t, call("MinorSigns", c.u, c.k), text, ok, c.want)
	}
}

// P36.

func TestPromise36(t *testing.T) {
	for _, u := range minorTables() {
		for k := 0; k <= lesser(u); k++ {
			want, found := [3]int{}, false
			rowSets, columnSets := setsOf(len(u), k), setsOf(len(u[0]), k)
			for i, row := range kthMinorsOf(u, k) {
				for j, x := range row {
					if !found || abs(x) > want[0] {
						want, found = [3]int{abs(x), rowSets[i], columnSets[j]}, true
					}
				}
			}
			wantMost(t, u, k, want)
			most, rows, columns, _ := impl.MinorMost(u, k)
			v, ok := impl.ValueMinor(u, rows, columns)
			wantValue(t, call("ValueMinor without its sign", u, rows, columns), abs(v), ok, most)
			for _, row := range minorTable(t, u, k) {
				for _, x := range row {
					if x > most || -x > most {
						t.Errorf("%s is %d; there is a minor %d", call("MinorMost", u, k), most, x)
					}
				}
			}
		}
	}
}

func TestMinorMostExamples(t *testing.T) {
	wantMost(t, [][]int{{1, -9}, {9, 4}}, 1, [3]int{9, 1, 2})
	wantMost(t, [][]int{{1, 4}, {9, -9}}, 1, [3]int{9, 2, 1})
	wantMost(t, [][]int{{1, 4}, {3, -9}}, 2, [3]int{21, 3, 3})
	wantMost(t, [][]int{{1, 2, 3}, {4, 5, 6}}, 2, [3]int{6, 3, 5})
	wantMost(t, [][]int{{1, 4}, {2, 5}, {3, 6}}, 2, [3]int{6, 5, 3})
	wantMost(t, [][]int{{0}}, 1, [3]int{0, 1, 1})
	wantMost(t, [][]int{{-30}}, 1, [3]int{30, 1, 1})
	wantMost(t, filled(6, 6, 0), 3, [3]int{0, 7, 7})
	wantMost(t, filled(6, 5, 30), 2, [3]int{0, 3, 3})
	wantMost(t, unit(6), 4, [3]int{1, 15, 15})
	wantMost(t, greatSquare(), 6, [3]int{160 * 729000000, 63, 63})
}

// P37.

func TestPromise37(t *testing.T) {
	checked := 0
	for n := 2; n <= 6; n++ {
		for seed := range 80 {
			for _, u := range [][][]int{sample(n, n, 1, seed), sample(n, n, 1+seed%30, seed+90), lowRank(n, n, 1+seed%n, seed), unit(n)} {
				x, ok := impl.ValueOther(u)
				if !ok || !impl.TableIn(x) {
					continue
				}
				checked++
				v, ok := impl.ValueMinor(x, 3, 3)
				rest, ok1 := impl.ValueMinor(u, 1<<n-4, 1<<n-4)
				if !ok || !ok1 || v != value(t, u)*rest {
					t.Errorf("the first minor of %s is %d; the value of the square is %d and the minor of the rest %d", call("ValueOther", u), v, value(t, u), rest)
				}
			}
		}
	}
	if checked < 1000 {
		t.Errorf("only %d results are tables", checked)
	}
}

// Memory, arguments and goroutines.

func TestMinorMemory(t *testing.T) {
	for _, height := range sides {
		for _, width := range sides {
			u := sample(height, width, 5, height+width)
			for k := 0; k <= lesser(u); k++ {
				checkMemory(t, "MinorTable", [][][]int{u}, func(a [][][]int) ([][]int, bool) { return impl.MinorTable(a[0], k) })
				if height == width && k < height {
					checkMemory(t, "MinorAround", [][][]int{u}, func(a [][][]int) ([][]int, bool) { return impl.MinorAround(a[0], k) })
				}
			}
			checkMemory(t, "MinorFactors", [][][]int{u}, func(a [][][]int) ([][]int, bool) {
				x, ok := impl.MinorFactors(a[0])
				return [][]int{x}, ok
			})
		}
	}
}

// callMinors calls all functions of the chapter and returns what they return.
func callMinors(u [][]int, k int) []any {
	results := []any{}
	add := func(x ...any) { results = append(results, x...) }
	x, ok := impl.MinorTable(u, k)
	add(x, ok)
	v, ok := impl.MinorCount(u, k)
	add(v, ok)
	v, ok = impl.MinorDivisor(u, k)
	add(v, ok)
	factors, ok := impl.MinorFactors(u)
	add(factors, ok)
	v, ok = impl.MinorMiddle(u, k)
	add(v, ok)
	x, ok = impl.MinorAround(u, k)
	add(x, ok)
	text, ok := impl.MinorSigns(u, k)
	add(text, ok)
	v, rows, columns, ok := impl.MinorMost(u, k)
	add(v, rows, columns, ok)
	return results
}

// TestMinorsKeepArguments calls all functions, also for what makes them fail.
func TestMinorsKeepArguments(t *testing.T) {
	for _, u := range append(minorTables(), filled(7, 7, 1), [][]int{}, [][]int{{1}, {}}, [][]int{{31}}) {
		a := loose(u)
		before := wholeOf(a)
		for _, k := range []int{0, 1, 2, len(u), len(u) + 1, -1, math.MinInt} {
			if !reflect.DeepEqual(callMinors(a, k), callMinors(a, k)) {
				t.Errorf("two calls for %v and %d differ", u, k)
			}
		}
		if !reflect.DeepEqual(wholeOf(a), before) {
			t.Errorf("the argument %v has changed", u)
		}
	}
}

// TestMinorsOfSharedRows uses one row as several rows.
func TestMinorsOfSharedRows(t *testing.T) {
	row := []int{2, -3}
	shared := [][]int{row, row}
	x := minorTable(t, shared, 1)
	wantTable(t, "MinorTable of one row twice", x, true, shared)
	around, ok := impl.MinorAround(shared, 0)
	wantTable(t, "MinorAround of one row twice", around, ok, shared)
	scribble(x[0])
	scribble(around[1])
	wantTable(t, "MinorTable of one row twice, its other row", x[1:], true, [][]int{{2, -3}})
	wantTable(t, "one row", [][]int{row}, true, [][]int{{2, -3}})
}

// TestMinorsTogether calls the functions from several goroutines for the same table, and looks for goroutines that are left.
func TestMinorsTogether(t *testing.T) {
	before := runtime.NumGoroutine()
	for _, u := range [][][]int{sample(6, 6, 30, 5), sample(4, 6, 3, 5), filled(6, 6, 0), {{7}}, {{1}, {}}} {
		for _, k := range []int{0, 1, 3, 5, -1} {
			want := callMinors(u, k)
			var callers sync.WaitGroup
			for range 8 {
				callers.Go(func() {
					if got := callMinors(u, k); !reflect.DeepEqual(got, want) {
						t.Errorf("%v and %d: %v, then %v", u, k, want, got)
					}
				})
			}
			callers.Wait()
		}
	}
	for range 1000 {
		runtime.Gosched()
	}
	if after := runtime.NumGoroutine(); after > before+20 {
		t.Errorf("there were %d goroutines, and now there are %d", before, after)
	}
}
