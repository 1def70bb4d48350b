package impl

import (
	"iter"
	"slices"
)

// SideMax is the greatest number of rows and of columns.
const SideMax = 6

// EntryMax is the greatest entry without its sign.
const EntryMax = 30

// table is not always a table in the document's sense: what is made of tables
// may be beyond their limits, so that fits has to tell. No method changes its
// receiver, since that may be the argument of a caller.
type table [][]int

// newTable makes each row apart, since no two slices of a result may share
// memory, not even that behind their ends.
func newTable(height int, width int, entry func(i, k int) int) table {
	t := make(table, height)
	for i := range t {
		t[i] = make([]int, width)
		for k := range t[i] {
			t[i][k] = entry(i, k)
		}
	}
	return t
}

func unitTable(n int) table {
	return newTable(n, n, func(i, k int) int {
		if i == k {
			return 1
		}
		return 0
	})
}

// rows takes a set, so that parts of a table come about as the whole of it does.
func (t table) rows(set int) iter.Seq2[int, []int] {
	return func(yield func(int, []int) bool) {
		for i, row := range t {
			if inSet(set, i) && !yield(i, row) {
				return
			}
		}
	}
}

func (t table) allRows() int {
	return fullSet(len(t))
}

func (t table) width() int {
	return len(t[0])
}

// fits asks for the number of rows first, since there is no width without one.
func (t table) fits() bool {
	if !isSide(len(t)) || !isSide(t.width()) {
		return false
	}
	for _, row := range t.rows(t.allRows()) {
		if len(row) != t.width() || !entriesIn(row) {
			return false
		}
	}
	return true
}

// result is for new tables alone: it gives out the memory of its receiver.
func (t table) result() ([][]int, bool) {
	if !t.fits() {
		return nil, false
	}
	return t, true
}

func (t table) alike(u table) bool {
	return len(t) == len(u) && t.width() == u.width()
}

func (t table) same(u table) bool {
	if !t.alike(u) {
		return false
	}
	for i, row := range t.rows(t.allRows()) {
		if !slices.Equal(row, u[i]) {
			return false
		}
	}
	return true
}

func (t table) hasRow(i int) bool {
	return inRange(i, 0, len(t)-1)
}

func (t table) sum(u table) table {
	return newTable(len(t), t.width(), func(i, k int) int {
		return t[i][k] + u[i][k]
	})
}

func (t table) times(f int) table {
	return newTable(len(t), t.width(), func(i, k int) int {
		return t[i][k] * f
	})
}

func (t table) product(u table) table {
	return newTable(len(t), u.width(), func(i, k int) int {
		sum := 0
		for j, row := range u.rows(u.allRows()) {
			sum += t[i][j] * row[k]
		}
		return sum
	})
}

func (t table) turned() table {
	return newTable(t.width(), len(t), func(i, k int) int {
		return t[k][i]
	})
}

func (t table) part(rows int, columns int) table {
	var p table
	for _, row := range t.rows(rows) {
		p = append(p, chosen(row, columns))
	}
	return p
}

func (t table) beside(u table) table {
	height, width := len(t), t.width()
	return newTable(height+len(u), width+u.width(), func(i, k int) int {
		switch {
		case i < height && k < width:
			return t[i][k]
		case i >= height && k >= width:
			return u[i-height][k-width]
		}
		return 0
	})
}

// swapped exchanges the rows of a copy, made as the part by all rows and
// columns, so that the exchange does not reach the argument.
func (t table) swapped(a int, b int) table {
	s := t.part(t.allRows(), fullSet(t.width()))
	s[a], s[b] = s[b], s[a]
	return s
}

func (t table) added(from int, to int, f int) table {
	return newTable(len(t), t.width(), func(i, k int) int {
		if i == to {
			return t[i][k] + f*t[from][k]
		}
		return t[i][k]
	})
}

func chosen(row []int, columns int) []int {
	var c []int
	for k, entry := range row {
		if inSet(columns, k) {
			c = append(c, entry)
		}
	}
	return c
}

func entriesIn(row []int) bool {
	return allInRange(row, -EntryMax, EntryMax)
}

func allInRange(list []int, low int, high int) bool {
	for _, x := range list {
		if !inRange(x, low, high) {
			return false
		}
	}
	return true
}

func isSide(n int) bool {
	return inRange(n, 1, SideMax)
}

func isEntry(x int) bool {
	return inRange(x, -EntryMax, EntryMax)
}

func inRange(x int, low int, high int) bool {
	return low <= x && x <= high
}

func fullSet(n int) int {
	return 1<<n - 1
}

func inSet(set int, i int) bool {
	return set>>i&1 == 1
}

func isFilledSet(set int, n int) bool {
	return inRange(set, 1, fullSet(n))
}

// TableIn reports whether a list of lists is a table.
func TableIn(t [][]int) bool {
	return table(t).fits()
}

// TableSum returns the table of the sums of the entries of two tables with as many rows and columns, and true.
func TableSum(t [][]int, u [][]int) ([][]int, bool) {
	if !TableIn(t) || !TableIn(u) || !table(t).alike(u) {
		return nil, false
	}
	return table(t).sum(u).result()
}

// TableTimes returns the table with all entries times k, k from -EntryMax to EntryMax, and true.
func TableTimes(t [][]int, k int) ([][]int, bool) {
	if !TableIn(t) || !isEntry(k) {
		return nil, false
	}
	return table(t).times(k).result()
}

// TableMake returns the product of two tables, the first one having as many columns as the second one rows.
func TableMake(t [][]int, u [][]int) ([][]int, bool) {
	if !TableIn(t) || !TableIn(u) || table(t).width() != len(u) {
		return nil, false
	}
	return table(t).product(u).result()
}

// TableTurn returns the table with rows and columns exchanged, and true.
func TableTurn(t [][]int) ([][]int, bool) {
	if !TableIn(t) {
		return nil, false
	}
	return table(t).turned().result()
}

// TablePart returns the table of the rows of a set and the columns of a set, both not empty, and true.
func TablePart(t [][]int, rows int, columns int) ([][]int, bool) {
	if !TableIn(t) || !isFilledSet(rows, len(t)) || !isFilledSet(columns, table(t).width()) {
		return nil, false
	}
	return table(t).part(rows, columns).result()
}

// TableUnit returns the square of n rows, n from 1 to SideMax, with 1 where row and column are the same and 0 otherwise, and true.
func TableUnit(n int) ([][]int, bool) {
	if !isSide(n) {
		return nil, false
	}
	return unitTable(n).result()
}

// TableBeside returns the table of a table and a second one behind its last row and column, with 0 at all other places, and true.
func TableBeside(t [][]int, u [][]int) ([][]int, bool) {
	if !TableIn(t) || !TableIn(u) {
		return nil, false
	}
	return table(t).beside(u).result()
}

// TableSwap returns the table with two rows exchanged, which may be one and the same, and true.
func TableSwap(t [][]int, i int, k int) ([][]int, bool) {
	if !TableIn(t) || !table(t).hasRow(i) || !table(t).hasRow(k) {
		return nil, false
	}
	return table(t).swapped(i, k).result()
}

// TableAdd returns the table with k times a row added to another row, k from -EntryMax to EntryMax, and true.
func TableAdd(t [][]int, from int, to int, k int) ([][]int, bool) {
	if !TableIn(t) || !table(t).hasRow(from) || !table(t).hasRow(to) || from == to || !isEntry(k) {
		return nil, false
	}
	return table(t).added(from, to, k).result()
}

// TableSame reports whether two tables have the same rows; it does not hold if one of both is none.
func TableSame(t [][]int, u [][]int) bool {
	return TableIn(t) && TableIn(u) && table(t).same(u)
}
