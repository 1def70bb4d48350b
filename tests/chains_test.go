package tests

import (
	"reflect"
	"slices"
	"testing"

	"loop.example/tableminors/impl"
)

// chainValues and chainTables are the functions of a chain that return a number, and a table, by their names.
var (
	chainValues = map[string]func([]int) (int, bool){"ChainValue": impl.ChainValue, "ChainPairs": impl.ChainPairs}
	chainTables = map[string]func([]int) ([][]int, bool){"ChainTable": impl.ChainTable, "ChainTurns": impl.ChainTurns}
)

// chainValueOf leaves out first numbers, not last ones.
func chainValueOf(x []int) int {
	switch len(x) {
	case 0:
		return 1
	case 1:
		return x[0]
	}
	return x[0]*chainValueOf(x[1:]) + chainValueOf(x[2:])
}

// chainPairsOf tries all sets of places at which a pair may begin, those with two places beside each other being none.
func chainPairsOf(x []int) int {
	sum := 0
	for set := range 1 << max(0, len(x)-1) {
		if set&(set<<1) != 0 {
			continue
		}
		product := 1
		for place, number := range x {
			if (set|set<<1)>>place&1 == 0 {
				product *= number
			}
		}
		sum += product
	}
	return sum
}

func chainTableOf(x []int) [][]int {
	u := filled(len(x), len(x), 0)
	for i, number := range x {
		u[i][i] = number
		if i > 0 {
			u[i-1][i], u[i][i-1] = 1, -1
		}
	}
	return u
}

func chainPartsOf(x []int) []int {
	n := len(x)
	switch n {
	case 0:
		return []int{1, 0, 0, 0}
	case 1:
		return []int{x[0], 1, 1, 0}
	}
	return []int{chainValueOf(x), chainValueOf(x[:n-1]), chainValueOf(x[1:]), chainValueOf(x[1 : n-1])}
}

// chainTurnsOf multiplies the squares of two rows from the last one on.
func chainTurnsOf(x []int) [][]int {
	u := unit(2)
	for _, number := range slices.Backward(x) {
		u = productOf([][]int{{number, 1}, {1, 0}}, u)
	}
	return u
}

// leadsBeyond tells whether the product of some first squares is no table, or that of some last ones.
func leadsBeyond(x []int) bool {
	for place := range x {
		if !within(chainTurnsOf(x[:place])) || !within(chainTurnsOf(x[place:])) {
			return true
		}
	}
	return false
}

// eachChain calls a function for chains of 0 to 6 numbers: all those of up to three, those of numbers that are 0, 1, -1
// and the limits, and mixed ones.
func eachChain(function func(x []int)) {
	var numbers []int
	for number := -9; number <= 9; number++ {
		numbers = append(numbers, number)
	}
	for count, chosen := range [][]int{numbers, numbers, numbers, numbers, {-9, -4, -1, 0, 1, 2, 9}, {-9, -1, 0, 2, 9}, {-9, -1, 0, 9}} {
		for _, x := range append(allLists(count, chosen), allLists(count, []int{-1, 0, 1})...) {
			function(x)
		}
		for _, limit := range []int{1, 2, 4, 9} {
			for seed := range 100 {
				function(sample(1, count, limit, seed)[0])
			}
		}
		for _, number := range numbers {
			function(slices.Repeat([]int{number}, count))
		}
	}
	function([]int{1, 2, 3, 4, 5, 6})
	function([]int{6, 6, 0, -6})
	function([]int{9, 9, 9, 0, -9, -9})
}

// wantChain checks all functions for a chain.
func wantChain(t *testing.T, x []int) {
	t.Helper()
	v, ok := impl.ChainValue(x)
	wantValue(t, call("ChainValue", x), v, ok, chainValueOf(x))
	v, ok = impl.ChainPairs(x)
	wantValue(t, call("ChainPairs", x), v, ok, chainPairsOf(x))
	parts, ok := impl.ChainParts(x)
	wantList(t, call("ChainParts", x), parts, ok, chainPartsOf(x))
	turns, ok := impl.ChainTurns(x)
	wantIf(t, call("ChainTurns", x), turns, ok, chainTurnsOf(x))
	u, ok := impl.ChainTable(x)
	if len(x) == 0 {
		wantFailure(t, call("ChainTable", x), u, ok)
	} else {
		wantTable(t, call("ChainTable", x), u, ok, chainTableOf(x))
	}
}

// wantNoChain checks that all functions fail for a list.
func wantNoChain(t *testing.T, what string, x []int) {
	t.Helper()
	for name, function := range chainValues {
		v, ok := function(x)
		wantNoValue(t, call(name, what), v, ok)
	}
	for name, function := range chainTables {
		u, ok := function(x)
		wantFailure(t, call(name, what), u, ok)
	}
	parts, ok := impl.ChainParts(x)
	wantNoList(t, call("ChainParts", what), parts, ok)
}

// The rules for all functions.

// TestNoChains has lists of too many numbers.
func TestNoChains(t *testing.T) {
	for _, count := range []int{7, 8, 9, 12, 13, 19, 31, 36, 64, 1000, 100000} {
		for _, number := range []int{0, 1, -1, 9, -9, 10} {
			wantNoChain(t, call("", count, "times", number), slices.Repeat([]int{number}, count))
		}
	}
	wantNoChain(t, "1 to 7", []int{1, 2, 3, 4, 5, 6, 7})
	wantNoChain(t, "six and 0", []int{1, 2, 3, 4, 5, 6, 0})
	wantNoChain(t, "0 and six", []int{0, 1, 2, 3, 4, 5, 6})
}

// TestNoChainNumbers has numbers beyond the limits at each place, also where all others are 9, or where they come twice
// and lead back.
func TestNoChainNumbers(t *testing.T) {
	eachBeyond(9, func(x []int) {
		wantNoChain(t, call("", x), x)
	})
	for _, n := range sides {
		for place := range n {
			for _, number := range []int{10, -10} {
				for _, others := range []int{9, -9} {
					x := slices.Repeat([]int{others}, n)
					x[place] = number
					wantNoChain(t, call("", x), x)
					x[n-1-place] = -number
					wantNoChain(t, call("", x), x)
				}
			}
		}
	}
	wantNoChain(t, "numbers that lead back", []int{10, 0, -10})
	wantNoChain(t, "numbers that lead back", []int{1, 30, 0, -30, 1})
}

// TestChainOfNoNumbers has all that an empty chain may be.
func TestChainOfNoNumbers(t *testing.T) {
	list := []int{1, 2, 3}
	for _, none := range [][]int{nil, {}, list[:0], list[3:], loose([][]int{{}})[0]} {
		for name, function := range chainValues {
			v, ok := function(none)
			wantValue(t, call(name, none), v, ok, 1)
		}
		u, ok := impl.ChainTable(none)
		wantFailure(t, call("ChainTable", none), u, ok)
		parts, ok := impl.ChainParts(none)
		wantList(t, call("ChainParts", none), parts, ok, []int{1, 0, 0, 0})
		turns, ok := impl.ChainTurns(none)
		wantTable(t, call("ChainTurns", none), turns, ok, [][]int{{1, 0}, {0, 1}})
	}
}

func TestChainOfOneNumber(t *testing.T) {
	for number := -30; number <= 30; number++ {
		one := []int{number}
		if number < -9 || number > 9 {
			wantNoChain(t, call("", one), one)
			continue
		}
		for name, function := range chainValues {
			v, ok := function(one)
			wantValue(t, call(name, one), v, ok, number)
		}
		u, ok := impl.ChainTable(one)
		wantTable(t, call("ChainTable", one), u, ok, [][]int{{number}})
		parts, ok := impl.ChainParts(one)
		wantList(t, call("ChainParts", one), parts, ok, []int{number, 1, 1, 0})
		turns, ok := impl.ChainTurns(one)
		wantTable(t, call("ChainTurns", one), turns, ok, [][]int{{number, 1}, {1, 0}})
	}
}

func TestChainOfTwoNumbers(t *testing.T) {
	for first := -10; first <= 10; first++ {
		for last := -10; last <= 10; last++ {
			two, both := []int{first, last}, first*last+1
			if !numbersWithin(two, 9) {
				wantNoChain(t, call("", two), two)
				continue
			}
			for name, function := range chainValues {
				v, ok := function(two)
				wantValue(t, call(name, two), v, ok, both)
			}
			u, ok := impl.ChainTable(two)
			wantTable(t, call("ChainTable", two), u, ok, [][]int{{first, 1}, {-1, last}})
			parts, ok := impl.ChainParts(two)
			wantList(t, call("ChainParts", two), parts, ok, []int{both, first, last, 1})
			turns, ok := impl.ChainTurns(two)
			wantIf(t, call("ChainTurns", two), turns, ok, [][]int{{both, first}, {last, 1}})
		}
	}
}

// TestChainExamples has the values of a chain, without its last number, without its first one and without both.
func TestChainExamples(t *testing.T) {
	for _, c := range []struct {
		list  []int
		parts []int
	}{
		{[]int{1, 2, 3}, []int{10, 3, 7, 2}}, {[]int{3, 2, 1}, []int{10, 7, 3, 2}}, {[]int{2, 3}, []int{7, 2, 3, 1}}, {[]int{0, 0}, []int{1, 0, 0, 1}}, {[]int{0, 5}, []int{1, 0, 5, 1}}, {[]int{1, -1}, []int{0, 1, -1, 1}}, {[]int{9, -9}, []int{-80, 9, -9, 1}},
		{[]int{0, 0, 0}, []int{0, 1, 1, 0}}, {[]int{4, 0, -7}, []int{-3, 1, 1, 0}}, {[]int{9, 9, 9}, []int{747, 82, 82, 9}}, {[]int{-9, -9, -9}, []int{-747, 82, 82, -9}},
		{[]int{1, 2, 3, 4}, []int{43, 10, 30, 7}}, {[]int{1, 1, 1, 1}, []int{5, 3, 3, 2}}, {[]int{6, 6, 0, -6}, []int{1, 6, 0, 1}}, {[]int{9, 9, 9, 9}, []int{6805, 747, 747, 82}}, {[]int{0, 0, 0, 0}, []int{1, 0, 0, 1}},
		{[]int{1, 2, 3, 4, 5}, []int{225, 43, 157, 30}}, {[]int{2, 0, 0, 0, 3}, []int{5, 1, 1, 0}}, {[]int{9, 9, 9, 9, 9}, []int{61992, 6805, 6805, 747}}, {[]int{-9, -9, -9, -9, -9}, []int{-61992, 6805, 6805, -747}},
		{[]int{1, 1, 1, 1, 1, 1}, []int{13, 8, 8, 5}}, {[]int{-1, -1, -1, -1, -1, -1}, []int{13, -8, -8, 5}}, {[]int{0, 0, 0, 0, 0, 0}, []int{1, 0, 0, 1}}, {[]int{1, 2, 3, 4, 5, 6}, []int{1393, 225, 972, 157}},
		{[]int{9, 9, 9, 0, -9, -9}, []int{1, 9, 0, 1}}, {[]int{9, 9, 9, 9, 9, 9}, []int{564733, 61992, 61992, 6805}}, {[]int{-9, -9, -9, -9, -9, -9}, []int{564733, -61992, -61992, 6805}}, {[]int{9, -9, 9, -9, 9, -9}, []int{-499121, 56160, -56160, 6319}},
	} {
		parts, ok := impl.ChainParts(c.list)
		wantList(t, call("ChainParts", c.list), parts, ok, c.parts)
		for name, function := range chainValues {
			v, ok := function(c.list)
			wantValue(t, call(name, c.list), v, ok, c.parts[0])
		}
	}
}

func TestChainTableExamples(t *testing.T) {
	for _, c := range []struct {
		list []int
		want [][]int
	}{
		{[]int{7}, [][]int{{7}}}, {[]int{0}, [][]int{{0}}}, {[]int{2, 3}, [][]int{{2, 1}, {-1, 3}}}, {[]int{9, -9}, [][]int{{9, 1}, {-1, -9}}}, {[]int{1, 2, 3}, [][]int{{1, 1, 0}, {-1, 2, 1}, {0, -1, 3}}},
		{[]int{0, 0, 0, 0}, [][]int{{0, 1, 0, 0}, {-1, 0, 1, 0}, {0, -1, 0, 1}, {0, 0, -1, 0}}}, {[]int{-1, 4, -2, 0, 5}, [][]int{{-1, 1, 0, 0, 0}, {-1, 4, 1, 0, 0}, {0, -1, -2, 1, 0}, {0, 0, -1, 0, 1}, {0, 0, 0, -1, 5}}},
		{[]int{9, 8, 7, -7, -8, -9}, [][]int{{9, 1, 0, 0, 0, 0}, {-1, 8, 1, 0, 0, 0}, {0, -1, 7, 1, 0, 0}, {0, 0, -1, -7, 1, 0}, {0, 0, 0, -1, -8, 1}, {0, 0, 0, 0, -1, -9}}},
	} {
		u, ok := impl.ChainTable(c.list)
		wantTable(t, call("ChainTable", c.list), u, ok, c.want)
	}
}

// TestChainTurnsExamples has products that are no tables as nil: just so, at their first place or at others too.
func TestChainTurnsExamples(t *testing.T) {
	for _, c := range []struct {
		list []int
		want [][]int
	}{
		{[]int{5}, [][]int{{5, 1}, {1, 0}}}, {[]int{2, 3}, [][]int{{7, 2}, {3, 1}}}, {[]int{3, 2}, [][]int{{7, 3}, {2, 1}}}, {[]int{1, 2, 3}, [][]int{{10, 3}, {7, 2}}}, {[]int{3, 2, 1}, [][]int{{10, 7}, {3, 2}}}, {[]int{0, 0}, unit(2)}, {[]int{0, 0, 0}, [][]int{{0, 1}, {1, 0}}},
		{[]int{4, 7}, [][]int{{29, 4}, {7, 1}}}, {[]int{5, 6}, nil}, {[]int{-4, 8}, nil}, {[]int{-5, 6}, [][]int{{-29, -5}, {6, 1}}}, {[]int{4, -8}, nil}, {[]int{6, 6}, nil}, {[]int{9, 9}, nil}, {[]int{9, 9, 0}, nil}, {[]int{0, 9, 9}, nil}, {[]int{9, 0, 9}, [][]int{{18, 1}, {1, 0}}},
		{[]int{3, 9, 1}, nil}, {[]int{1, 2, 9}, [][]int{{28, 3}, {19, 2}}}, {[]int{1, 2, 3, 4}, nil}, {[]int{6, 6, 0, -6}, [][]int{{1, 6}, {0, 1}}}, {[]int{9, 9, 9, 0, -9, -9}, [][]int{{1, 9}, {0, 1}}}, {[]int{0, 1, 2, 3, 4}, nil}, {[]int{1, 2, 3, 4, 0}, nil},
		{[]int{1, 1, 1, 1, 1}, [][]int{{8, 5}, {5, 3}}}, {[]int{1, 1, 1, 1, 1, 1}, [][]int{{13, 8}, {8, 5}}}, {[]int{0, 0, 0, 0, 0, 0}, unit(2)}, {[]int{2, 1, 1, 1, 1, 1}, [][]int{{21, 13}, {8, 5}}}, {[]int{1, 2, 3, 4, 5, 6}, nil}, {[]int{9, 9, 9, 9, 9, 9}, nil},
	} {
		turns, ok := impl.ChainTurns(c.list)
		if c.want != nil {
			wantTable(t, call("ChainTurns", c.list), turns, ok, c.want)
			continue
		}
		wantFailure(t, call("ChainTurns", c.list), turns, ok)
		// The other functions do not fail for these.
		v, ok := impl.ChainValue(c.list)
		wantValue(t, call("ChainValue", c.list), v, ok, chainValueOf(c.list))
		parts, ok := impl.ChainParts(c.list)
		wantList(t, call("ChainParts", c.list), parts, ok, chainPartsOf(c.list))
	}
}

// TestChains checks all functions for all chains.
func TestChains(t *testing.T) {
	eachChain(func(x []int) { wantChain(t, x) })
}

// P83.

func TestPromise83(t *testing.T) {
	others := map[int]int{}
	eachChain(func(x []int) {
		back := slices.Clone(x)
		slices.Reverse(back)
		v, ok := impl.ChainValue(x)
		w, also := impl.ChainValue(back)
		if !ok || !also || v != w {
			t.Errorf("%s returned %d, %v, and %d, %v backwards", call("ChainValue", x), v, ok, w, also)
		}
		wantValue(t, call("ChainValue", x), v, ok, chainValueOf(x))
		if !slices.Equal(x, back) {
			others[len(x)]++
		}
	})
	for _, n := range sides[1:] {
		if others[n] < 300 {
			t.Errorf("only %d chains of %d numbers are others backwards", others[n], n)
		}
	}
}

// P84.

func TestPromise84(t *testing.T) {
	eachChain(func(x []int) {
		u, ok := impl.ChainTable(x)
		if len(x) == 0 {
			wantFailure(t, call("ChainTable", x), u, ok)
			return
		}
		wantTable(t, call("ChainTable", x), u, ok, chainTableOf(x))
		v, ok := impl.ChainValue(x)
		wantValue(t, call("ChainValue", x), v, ok, valueOf(chainTableOf(x)))
		wantValue(t, call("ValueOrders of ChainTable", x), value(t, u), true, v)
	})
}

// P85.

func TestPromise85(t *testing.T) {
	eachChain(func(x []int) {
		v, ok := impl.ChainPairs(x)
		w, also := impl.ChainValue(x)
		if !ok || !also || v != w {
			t.Errorf("%s returned %d, %v, and ChainValue %d, %v", call("ChainPairs", x), v, ok, w, also)
		}
		wantValue(t, call("ChainPairs", x), v, ok, chainPairsOf(x))
	})
}

// P86.

func TestPromise86(t *testing.T) {
	eachChain(func(x []int) {
		parts, ok := impl.ChainParts(x)
		wantList(t, call("ChainParts", x), parts, ok, chainPartsOf(x))
		if len(x) == 0 || len(parts) != 4 {
			return
		}
		wantValue(t, call("ChainParts", x), parts[0]*parts[3]-parts[1]*parts[2], ok, 1-2*(len(x)%2))
		v, ok := impl.ChainValue(x)
		wantValue(t, call("ChainValue", x), v, ok, parts[0])
		v, ok = impl.ChainValue(x[:len(x)-1])
		wantValue(t, call("ChainValue without the last number", x), v, ok, parts[1])
		v, ok = impl.ChainValue(x[1:])
		wantValue(t, call("ChainValue without the first number", x), v, ok, parts[2])
	})
}

// P87.

func TestPromise87(t *testing.T) {
	made, failed, led := map[int]int{}, map[int]int{}, map[int]int{}
	eachChain(func(x []int) {
		turns, ok := impl.ChainTurns(x)
		wantIf(t, call("ChainTurns", x), turns, ok, chainTurnsOf(x))
		parts, also := impl.ChainParts(x)
		wantHolds(t, call("ChainParts", x), also && len(parts) == 4, true)
		switch {
		case !ok:
			failed[len(x)]++
			wantHolds(t, call("ChainParts within the limits", x), within([][]int{parts}), false)
		case len(x) > 0:
			made[len(x)]++
			wantTable(t, call("ChainTurns", x), turns, ok, [][]int{parts[:2], parts[2:]})
			if leadsBeyond(x) {
				led[len(x)]++
			}
		}
	})
	for _, n := range sides {
		if made[n] < 19 || n > 1 && failed[n] < 100 || n > 3 && led[n] < 5 {
			t.Errorf("of products of %d squares only %d are tables, %d of these lead beyond the limits on their way, and %d are none", n, made[n], led[n], failed[n])
		}
	}
}

// Memory and arguments.

func TestChainMemory(t *testing.T) {
	for n := range 7 {
		x := [][][]int{sample(1, n, 9, n)}
		checkMemory(t, "ChainParts", x, func(a [][][]int) ([][]int, bool) {
			parts, ok := impl.ChainParts(a[0][0])
			return [][]int{parts}, ok
		})
		small := [][][]int{sample(1, n, 1, n)}
		checkMemory(t, "ChainTurns", small, func(a [][][]int) ([][]int, bool) { return impl.ChainTurns(a[0][0]) })
		if n > 0 {
			checkMemory(t, "ChainTable", x, func(a [][][]int) ([][]int, bool) { return impl.ChainTable(a[0][0]) })
		}
	}
}

// callChains calls all functions of the chapter and returns what they return.
func callChains(x []int) []any {
	results := []any{}
	for _, name := range []string{"ChainValue", "ChainPairs"} {
		v, ok := chainValues[name](x)
		results = append(results, v, ok)
	}
	for _, name := range []string{"ChainTable", "ChainTurns"} {
		u, ok := chainTables[name](x)
		results = append(results, u, ok)
	}
	parts, ok := impl.ChainParts(x)
	return append(results, parts, ok)
}

// TestChainsKeepArguments calls all functions, also for what makes them fail.
func TestChainsKeepArguments(t *testing.T) {
	for count := range 14 {
		for seed, limit := range []int{0, 1, 2, 5, 9, 10, 30} {
			list := loose(sample(1, count, limit, seed))
			before := wholeOf(list)
			if !reflect.DeepEqual(callChains(list[0]), callChains(list[0])) {
				t.Errorf("two calls for %v differ", list[0])
			}
			if !reflect.DeepEqual(wholeOf(list), before) {
				t.Errorf("the argument %v has changed", before)
			}
		}
	}
}

// TestChainsOfOneList takes all parts of one list as chains, each with the numbers behind it as room.
func TestChainsOfOneList(t *testing.T) {
	list := []int{9, -2, 0, 1, 3, -9, 10, 4, 4, -1, 0, 0, 7, 5, -8}
	before := slices.Clone(list)
	for first := range list {
		for end := first; end <= len(list); end++ {
			x := list[first:end]
			if len(x) <= 6 && !slices.Contains(x, 10) {
				wantChain(t, x)
			} else {
				wantNoChain(t, call("", x), x)
			}
		}
	}
	wantList(t, "the list of all chains", list, true, before)
}

// TestChainsAgain writes over a result, and over the chain that it was made of, before the next call.
func TestChainsAgain(t *testing.T) {
	list := []int{1, 2, 3}
	want := callChains(list)
	for range 2 {
		copied := slices.Clone(list)
		parts, ok := impl.ChainParts(copied)
		u, also := impl.ChainTable(copied)
		turns, too := impl.ChainTurns(copied)
		scribble(copied)
		wantList(t, "ChainParts and its chain written over", parts, ok, []int{10, 3, 7, 2})
		wantTable(t, "ChainTable and its chain written over", u, also, [][]int{{1, 1, 0}, {-1, 2, 1}, {0, -1, 3}})
		wantTable(t, "ChainTurns and its chain written over", turns, too, [][]int{{10, 3}, {7, 2}})
		for _, row := range append(append(u, turns...), parts) {
			scribble(row)
		}
	}
	if got := callChains(list); !reflect.DeepEqual(got, want) {
		t.Errorf("the functions returned %v, and %v after other results were written over", want, got)
	}
}
