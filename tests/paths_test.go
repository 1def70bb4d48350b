package tests

import (
	"math"
	"reflect"
	"slices"
	"strings"
	"testing"

	"loop.example/tableminors/impl"
)

// net has lines and chips, which the functions are told one after the other.
type net struct {
	n     int
	chips []impl.Chip
}

// up, down and here return chips of the three kinds.
func up(line, weight int) impl.Chip {
	return impl.Chip{Kind: "u", Line: line, Weight: weight}
}

func down(line, weight int) impl.Chip {
	return impl.Chip{Kind: "d", Line: line, Weight: weight}
}

func here(line, weight int) impl.Chip {
	return impl.Chip{Kind: "h", Line: line, Weight: weight}
}

// netOf returns a net of some chips.
func netOf(n int, chips ...impl.Chip) net {
	return net{n, chips}
}

// times returns some chips again and again.
func times(count int, chips ...impl.Chip) []impl.Chip {
	return slices.Repeat(chips, count)
}

// lineCounts are the numbers of lines that a net may have.
var lineCounts = []int{2, 3, 4, 5}

// chipCount is the number of kinds of chips with their lines that a net of n lines may have, and chipAt returns one of them.
func chipCount(n int) int {
	return n + 2*(n-1)
}

func chipAt(n, number, weight int) impl.Chip {
	switch {
	case number < n:
		return here(number, weight)
	case number < n+n-1:
		return up(number-n, weight)
	}
	return down(number-n-(n-1), weight)
}

// sampleNet returns a net whose chips look mixed, with weights from a list; each seed leads to another one.
func sampleNet(n, count int, weights []int, seed int) net {
	state := uint32(seed*7919 + n*101 + count*13 + len(weights))
	next := func(limit int) int {
		state = state*1664525 + 1013904223
		return int(state>>8) % limit
	}
	m := net{n: n}
	for range count {
		m.chips = append(m.chips, chipAt(n, next(chipCount(n)), weights[next(len(weights))]))
	}
	return m
}

// weightLists have weights for mixed nets: 1 alone, small ones, many of 0, none that is negative, and the greatest ones.
var weightLists = [][]int{{1}, {-1, 1, 1, 2, -2}, {0, 1, -1}, {0, 1, 2, 3}, {-9, 9, 1, -1, 0}, {9}, {-9}}

// nets returns nets with all numbers of lines and chips, mixed ones and special ones.
func nets() []net {
	var all []net
	for _, n := range lineCounts {
		for count := range 11 {
			for seed := range 4 {
				for _, weights := range weightLists {
					all = append(all, sampleNet(n, count, weights, seed))
				}
			}
		}
		for number := range chipCount(n) {
			for _, weight := range []int{0, 1, -1, 9, -9} {
				all = append(all, netOf(n, chipAt(n, number, weight)), net{n, times(10, chipAt(n, number, weight))})
			}
		}
		all = append(all, crossing(n, 1), crossing(n, 2), crossing(n, -1))
	}
	return all
}

// crossing returns a net with many families, in which chips lead to all lines and back.
func crossing(n, weight int) net {
	m := net{n: n}
	for len(m.chips) < 8 {
		for line := range n - 1 {
			m.chips = append(m.chips, up(line, weight))
		}
		for line := n - 2; line >= 0; line-- {
			m.chips = append(m.chips, down(line, weight))
		}
	}
	m.chips = m.chips[:min(len(m.chips), 10)]
	return m
}

// allNets calls a function for all nets of some lines and some chips with weights from a list.
func allNets(n, count int, weights []int, function func(m net)) {
	choices := chipCount(n) * len(weights)
	for number := range powerOf(choices, count) {
		m := net{n: n}
		for range count {
			m.chips = append(m.chips, chipAt(n, number%choices/len(weights), weights[number%len(weights)]))
			number /= choices
		}
		function(m)
	}
}

// eachNet calls a function for all samples of nets and all small ones.
func eachNet(function func(m net)) {
	for _, m := range nets() {
		function(m)
	}
	for count := range 4 {
		allNets(2, count, []int{-1, 0, 2}, function)
	}
	for count := range 3 {
		allNets(3, count, []int{-1, 0, 2}, function)
	}
	allNets(4, 2, []int{2, 0}, function)
	allNets(5, 2, []int{-3}, function)
}

// trace is a path: the lines on which it is ahead of each chip and behind the last one, and its weight.
type trace struct {
	lines  []int
	weight int
}

// tracesFrom returns all paths from a line: of all sets of chips those are taken at which a path can go over.
func tracesFrom(chips []impl.Chip, start int) []trace {
	var all []trace
sets:
	for set := range 1 << len(chips) {
		path := trace{[]int{start}, 1}
		line := start
		for i, c := range chips {
			goes := set>>i%2 == 1
			switch {
			case goes && c.Kind == "u" && line == c.Line:
				line++
				path.weight *= c.Weight
			case goes && c.Kind == "d" && line == c.Line+1:
				line--
				path.weight *= c.Weight
			case goes:
				continue sets
			case c.Kind == "h" && line == c.Line:
				path.weight *= c.Weight
			}
			path.lines = append(path.lines, line)
		}
		all = append(all, path)
	}
	return all
}

// apart tells whether two paths are never on one line at one place.
func apart(a, b trace) bool {
	for i := range a.lines {
		if a.lines[i] == b.lines[i] {
			return false
		}
	}
	return true
}

// found is what is found of the paths of a net: for each two lines the number and the sum of the weights of all paths,
// for each two sets the number and the sum of the weights of all families, and the most lines of a family whose
// weight is not 0.
type found struct {
	counts, sums           [][]int
	familyCounts, families [][]int
	most                   int
}

// findPaths finds all paths, and all families by taking a path from each line in turn that is apart from those taken.
func findPaths(m net) found {
	all := 1 << m.n
	f := found{filled(m.n, m.n, 0), filled(m.n, m.n, 0), filled(all, all, 0), filled(all, all, 0), 0}
	var paths [][]trace
	for i := range m.n {
		paths = append(paths, tracesFrom(m.chips, i))
		for _, path := range paths[i] {
			k := path.lines[len(path.lines)-1]
			f.counts[i][k]++
			f.sums[i][k] += path.weight
		}
	}
	var take func(from int, to int, next int, taken []trace, weight int)
	take = func(from int, to int, next int, taken []trace, weight int) {
		if next == m.n {
			f.familyCounts[from][to]++
			f.families[from][to] += weight
			if weight != 0 {
				f.most = max(f.most, len(taken))
			}
			return
		}
		take(from, to, next+1, taken, weight)
	paths:
		for _, path := range paths[next] {
			for _, other := range taken {
				if !apart(path, other) {
					continue paths
				}
			}
			more := append(slices.Clone(taken), path)
			take(from|1<<next, to|1<<path.lines[len(path.lines)-1], next+1, more, weight*path.weight)
		}
	}
	take(0, 0, 0, nil, 1)
	return f
}

// hereProduct returns the product of the weights of all chips of the kind h.
func hereProduct(chips []impl.Chip) int {
	product := 1
	for _, c := range chips {
		if c.Kind == "h" {
			product *= c.Weight
		}
	}
	return product
}

// hasNegative tells whether a chip has a negative weight.
func hasNegative(chips []impl.Chip) bool {
	return slices.ContainsFunc(chips, func(c impl.Chip) bool { return c.Weight < 0 })
}

// withOnes returns the chips with all weights 1.
func withOnes(chips []impl.Chip) []impl.Chip {
	ones := []impl.Chip{}
	for _, c := range chips {
		ones = append(ones, impl.Chip{Kind: c.Kind, Line: c.Line, Weight: 1})
	}
	return ones
}

// turnedChips returns the chips from right to left, with both kinds that lead over exchanged.
func turnedChips(chips []impl.Chip) []impl.Chip {
	back := make([]impl.Chip, len(chips))
	for i, c := range chips {
		back[len(chips)-1-i] = impl.Chip{Kind: map[string]string{"u": "d", "d": "u", "h": "h"}[c.Kind], Line: c.Line, Weight: c.Weight}
	}
	return back
}

// otherKinds are no kinds of chips.
var otherKinds = []string{"", "U", "D", "H", "x", "uu", "ud", "u ", " u", "h\n", "\x00", "u\x00", "\xff", "ü", "0", "up", strings.Repeat("u", 100000)}

// noNets returns lines and chips that are no nets: because of one chip at each place, of too many chips, or of the lines.
func noNets() []net {
	var all []net
	for _, n := range append([]int{0, 1, 6, 7, 31, 32}, sizes...) {
		if n < 2 || n > 5 {
			all = append(all, net{n, nil}, netOf(n, here(0, 1)), netOf(n, up(0, 1), down(0, 2)), netOf(n, here(n-1, 1)))
		}
	}
	for _, n := range lineCounts {
		var others []impl.Chip
		for _, kind := range otherKinds {
			others = append(others, impl.Chip{Kind: kind, Line: 0, Weight: 1}, impl.Chip{Kind: kind, Line: n - 1, Weight: 0})
		}
		for _, weight := range []int{10, -10, 11, 100, math.MaxInt, math.MinInt, math.MinInt + 1, 1 << 32} {
			others = append(others, here(0, weight), up(0, weight), down(n-2, weight), here(n-1, weight))
		}
		for _, line := range append([]int{-1, -2, n, n + 1}, sizes...) {
			others = append(others, here(line, 1), up(line, 1), down(line, 1), up(line, 0), here(line, 0))
		}
		others = append(others, up(n-1, 1), down(n-1, 1), up(n-1, 0), down(n-1, -9), impl.Chip{})
		for i, c := range others {
			around := sampleNet(n, 9, []int{1}, i).chips
			at := i % 10
			all = append(all, netOf(n, c), net{n, slices.Insert(slices.Clone(around), at, c)}, netOf(n, c, here(0, 1)), netOf(n, here(0, 1), c))
		}
		for number := range chipCount(n) {
			all = append(all, net{n, times(11, chipAt(n, number, 1))})
		}
		all = append(all, net{n, times(12, here(0, 0))}, net{n, times(100000, up(0, 1))})
	}
	return all
}

// wantChips reports a result that is not the chips told.
func wantChips(t *testing.T, what string, x []impl.Chip, ok bool, want []impl.Chip) {
	t.Helper()
	if !ok || !slices.Equal(x, want) {
		t.Errorf("%s returned %v, %v; want %v, true", what, x, ok, want)
	}
}

// wantNoChips reports a result that is not the zero value and false.
func wantNoChips(t *testing.T, what string, x []impl.Chip, ok bool) {
	t.Helper()
	if ok || len(x) != 0 {
		t.Errorf("%s returned %v, %v; want a failure", what, x, ok)
	}
}

// wantNet checks all functions for a net against what is found of its paths.
func wantNet(t *testing.T, m net, f found) {
	t.Helper()
	wantHolds(t, call("NetIn", m), impl.NetIn(m.n, m.chips), true)
	x, ok := impl.NetTable(m.n, m.chips)
	wantIf(t, call("NetTable", m), x, ok, f.sums)
	for i := range m.n {
		for k := range m.n {
			v, ok := impl.NetPaths(m.n, m.chips, i, k)
			wantValue(t, call("NetPaths", m, i, k), v, ok, f.sums[i][k])
			v, ok = impl.NetCount(m.n, m.chips, i, k)
			wantValue(t, call("NetCount", m, i, k), v, ok, f.counts[i][k])
		}
	}
	for from := range 1 << m.n {
		for to := range 1 << m.n {
			v, ok := impl.NetFamilies(m.n, m.chips, from, to)
			if members(from) == members(to) {
				wantValue(t, call("NetFamilies", m, from, to), v, ok, f.families[from][to])
			} else {
				wantNoValue(t, call("NetFamilies", m, from, to), v, ok)
			}
		}
	}
	v, ok := impl.NetMost(m.n, m.chips)
	wantValue(t, call("NetMost", m), v, ok, f.most)
	back, ok := impl.NetTurn(m.n, m.chips)
	wantChips(t, call("NetTurn", m), back, ok, turnedChips(m.chips))
}

// TestNets compares all functions with the paths and families found by sets of chips.
func TestNets(t *testing.T) {
	eachNet(func(m net) {
		wantNet(t, m, findPaths(m))
	})
}

// TestNetsOfNoChips has nets without chips, nil or empty: each line leads to itself.
func TestNetsOfNoChips(t *testing.T) {
	for _, n := range lineCounts {
		for _, chips := range [][]impl.Chip{nil, {}} {
			m := net{n, chips}
			wantHolds(t, call("NetIn", m), impl.NetIn(n, chips), true)
			x, ok := impl.NetTable(n, chips)
			wantTable(t, call("NetTable", m), x, ok, unit(n))
			for i := range n {
				for k := range n {
					v, ok := impl.NetPaths(n, chips, i, k)
					wantValue(t, call("NetPaths", m, i, k), v, ok, unit(n)[i][k])
					v, ok = impl.NetCount(n, chips, i, k)
					wantValue(t, call("NetCount", m, i, k), v, ok, unit(n)[i][k])
				}
			}
			for from := range 1 << n {
				for to := range 1 << n {
					v, ok := impl.NetFamilies(n, chips, from, to)
					switch {
					case from == to:
						wantValue(t, call("NetFamilies", m, from, to), v, ok, 1)
					case members(from) == members(to):
						wantValue(t, call("NetFamilies", m, from, to), v, ok, 0)
					default:
						wantNoValue(t, call("NetFamilies", m, from, to), v, ok)
					}
				}
			}
			v, ok := impl.NetMost(n, chips)
			wantValue(t, call("NetMost", m), v, ok, n)
			back, ok := impl.NetTurn(n, chips)
			wantChips(t, call("NetTurn", m), back, ok, nil)
			joined, ok := impl.NetJoin(n, chips, chips)
			wantChips(t, call("NetJoin", m), joined, ok, nil)
			joined, ok = impl.NetJoin(n, chips, times(10, here(0, 2)))
			wantChips(t, call("NetJoin", m, "and ten"), joined, ok, times(10, here(0, 2)))
			joined, ok = impl.NetJoin(n, times(10, here(0, 2)), chips)
			wantChips(t, call("NetJoin", "ten and", m), joined, ok, times(10, here(0, 2)))
		}
	}
}

// The rules for all functions: what is no net, and what has others than lines.

func TestNoNets(t *testing.T) {
	for _, m := range noNets() {
		what := call("of no net", m.n, len(m.chips))
		if len(m.chips) < 3 {
			what = call("of no net", m)
		}
		wantHolds(t, "NetIn "+what, impl.NetIn(m.n, m.chips), false)
		x, ok := impl.NetTable(m.n, m.chips)
		wantFailure(t, "NetTable "+what, x, ok)
		v, ok := impl.NetPaths(m.n, m.chips, 0, 0)
		wantNoValue(t, "NetPaths "+what, v, ok)
		v, ok = impl.NetCount(m.n, m.chips, 0, 0)
		wantNoValue(t, "NetCount "+what, v, ok)
		for _, set := range []int{0, 1, 3} {
			v, ok = impl.NetFamilies(m.n, m.chips, set, set)
			wantNoValue(t, "NetFamilies "+what, v, ok)
		}
		v, ok = impl.NetMost(m.n, m.chips)
		wantNoValue(t, "NetMost "+what, v, ok)
		back, ok := impl.NetTurn(m.n, m.chips)
		wantNoChips(t, "NetTurn "+what, back, ok)
		for _, more := range [][]impl.Chip{nil, {here(0, 1)}, m.chips} {
			back, ok = impl.NetJoin(m.n, m.chips, more)
			wantNoChips(t, "NetJoin "+what, back, ok)
			back, ok = impl.NetJoin(m.n, more, m.chips)
			wantNoChips(t, "NetJoin with a second one "+what, back, ok)
		}
	}
}

func TestNetsOfNoLines(t *testing.T) {
	for _, n := range lineCounts {
		for _, m := range []net{{n, nil}, crossing(n, 1), sampleNet(n, 10, []int{1}, 7)} {
			for _, other := range append([]int{n, n + 1, -1}, sizes...) {
				if 0 <= other && other < n {
					t.Fatalf("%d is a line", other)
				}
				for line := range n {
					for _, ends := range [][2]int{{line, other}, {other, line}, {other, other}} {
						v, ok := impl.NetPaths(n, m.chips, ends[0], ends[1])
						wantNoValue(t, call("NetPaths", m, ends), v, ok)
						v, ok = impl.NetCount(n, m.chips, ends[0], ends[1])
						wantNoValue(t, call("NetCount", m, ends), v, ok)
					}
				}
			}
		}
	}
}

// TestNetFamiliesOtherSets has sets with others than lines, each one also with a set of as many lines, and sets of
// different sizes.
func TestNetFamiliesOtherSets(t *testing.T) {
	for _, n := range lineCounts {
		others := []int{1 << n, 1<<n | 1, 1<<(n+1) - 1, 1 << 31, 1 << 32, 1<<32 | 3, 1 << 62, -1, -2, -1 << n, math.MinInt, math.MinInt | 1, math.MinInt + 2, math.MaxInt, 1<<62 | 1}
		for _, m := range []net{{n, nil}, crossing(n, 1), sampleNet(n, 10, []int{1}, 7)} {
			for _, other := range others {
				for set := range 1 << n {
					v, ok := impl.NetFamilies(n, m.chips, other, set)
					wantNoValue(t, call("NetFamilies", m, other, set), v, ok)
					v, ok = impl.NetFamilies(n, m.chips, set, other)
					wantNoValue(t, call("NetFamilies", m, set, other), v, ok)
				}
				v, ok := impl.NetFamilies(n, m.chips, other, other)
				wantNoValue(t, call("NetFamilies", m, other, other), v, ok)
			}
			for from := range 1 << n {
				for to := range 1 << n {
					v, ok := impl.NetFamilies(n, m.chips, from, to)
					if ok != (members(from) == members(to)) || !ok && v != 0 {
						t.Errorf("NetFamilies(%v, %d, %d) returned %d, %v", m, from, to, v, ok)
					}
				}
			}
		}
	}
}

// P54.

func TestPromise54(t *testing.T) {
	eachNet(func(m net) {
		wantHolds(t, call("NetIn", m), impl.NetIn(m.n, m.chips), true)
		if len(m.chips) > 0 {
			wantHolds(t, call("NetIn without the last chip", m), impl.NetIn(m.n, m.chips[:len(m.chips)-1]), true)
		}
		if m.n < 5 {
			wantHolds(t, call("NetIn with a line more", m), impl.NetIn(m.n+1, m.chips), true)
		}
	})
}

// TestNetInLimits has chips of each kind on each line with each weight, on both sides of the limits.
func TestNetInLimits(t *testing.T) {
	for n := -2; n <= 8; n++ {
		lines := 2 <= n && n <= 5
		for line := -2; line <= 8; line++ {
			for weight := -12; weight <= 12; weight++ {
				told := lines && -9 <= weight && weight <= 9 && 0 <= line
				wantHolds(t, call("NetIn", n, "h", line, weight), impl.NetIn(n, []impl.Chip{here(line, weight)}), told && line < n)
				wantHolds(t, call("NetIn", n, "u", line, weight), impl.NetIn(n, []impl.Chip{up(line, weight)}), told && line < n-1)
				wantHolds(t, call("NetIn", n, "d", line, weight), impl.NetIn(n, []impl.Chip{down(line, weight)}), told && line < n-1)
			}
		}
		for count := range 14 {
			wantHolds(t, call("NetIn", n, count), impl.NetIn(n, times(count, up(0, 9))), lines && count <= 10)
		}
	}
}

func TestNetInKinds(t *testing.T) {
	for _, n := range lineCounts {
		for code := range 256 {
			kind := string([]byte{byte(code)})
			chip := []impl.Chip{{Kind: kind, Line: 0, Weight: 1}}
			wantHolds(t, call("NetIn", n, chip), impl.NetIn(n, chip), kind == "u" || kind == "d" || kind == "h")
		}
		for _, kind := range otherKinds {
			wantHolds(t, call("NetIn with another kind", n), impl.NetIn(n, []impl.Chip{{Kind: kind, Line: 0, Weight: 1}}), false)
		}
	}
}

// P55.

func TestPromise55(t *testing.T) {
	made, failed := 0, 0
	eachNet(func(m net) {
		x, ok := impl.NetTable(m.n, m.chips)
		if !ok {
			failed++
			return
		}
		made++
		for i := range m.n {
			for k := range m.n {
				v, ok := impl.NetPaths(m.n, m.chips, i, k)
				wantValue(t, call("NetPaths", m, i, k), v, ok, x[i][k])
			}
		}
		v, ok := impl.ValueOrders(x)
		wantValue(t, call("ValueOrders of the table of", m), v, ok, hereProduct(m.chips))
	})
	if made < 1000 || failed < 300 {
		t.Errorf("only %d nets have tables and %d have none", made, failed)
	}
}

func TestNetTableExamples(t *testing.T) {
	for _, c := range []struct {
		m    net
		want [][]int
	}{
		{netOf(2, up(0, 2), down(0, 3)), [][]int{{7, 2}, {3, 1}}}, {netOf(2, down(0, 3), up(0, 2)), [][]int{{1, 2}, {3, 7}}},
		{netOf(2, up(0, 2)), [][]int{{1, 2}, {0, 1}}}, {netOf(2, down(0, -9)), [][]int{{1, 0}, {-9, 1}}}, {netOf(2, here(0, 9)), [][]int{{9, 0}, {0, 1}}}, {netOf(2, here(1, 0)), [][]int{{1, 0}, {0, 0}}},
		{netOf(5, up(3, 9)), [][]int{{1, 0, 0, 0, 0}, {0, 1, 0, 0, 0}, {0, 0, 1, 0, 0}, {0, 0, 0, 1, 9}, {0, 0, 0, 0, 1}}},
		{netOf(5, down(3, 9)), [][]int{{1, 0, 0, 0, 0}, {0, 1, 0, 0, 0}, {0, 0, 1, 0, 0}, {0, 0, 0, 1, 0}, {0, 0, 0, 9, 1}}},
		{netOf(5, here(4, -9)), [][]int{{1, 0, 0, 0, 0}, {0, 1, 0, 0, 0}, {0, 0, 1, 0, 0}, {0, 0, 0, 1, 0}, {0, 0, 0, 0, -9}}},
		{netOf(3, up(0, 2), up(1, 3)), [][]int{{1, 2, 6}, {0, 1, 3}, {0, 0, 1}}}, {netOf(3, up(1, 3), up(0, 2)), [][]int{{1, 2, 0}, {0, 1, 3}, {0, 0, 1}}},
		{netOf(3, down(1, 3), down(0, 2)), [][]int{{1, 0, 0}, {2, 1, 0}, {6, 3, 1}}}, {netOf(3, down(0, 2), down(1, 3)), [][]int{{1, 0, 0}, {2, 1, 0}, {0, 3, 1}}},
		{netOf(2, here(0, 2), up(0, 3)), [][]int{{2, 6}, {0, 1}}}, {netOf(2, up(0, 3), here(0, 2)), [][]int{{2, 3}, {0, 1}}},
		{netOf(2, up(0, 0), down(0, 0)), [][]int{{1, 0}, {0, 1}}}, {netOf(2, up(0, 9), up(0, -9)), [][]int{{1, 0}, {0, 1}}},
		{net{2, times(10, up(0, 3))}, [][]int{{1, 30}, {0, 1}}}, {net{2, times(10, down(0, -3))}, [][]int{{1, 0}, {-30, 1}}},
		{crossing(5, 1), [][]int{{5, 4, 3, 2, 1}, {4, 4, 3, 2, 1}, {3, 3, 3, 2, 1}, {2, 2, 2, 2, 1}, {1, 1, 1, 1, 1}}},
	} {
		x, ok := impl.NetTable(c.m.n, c.m.chips)
		wantTable(t, call("NetTable", c.m), x, ok, c.want)
	}
}

// TestNetTableLimits has nets whose tables are just within the limits of entries or just beyond them. Where the table
// fails, paths and families are told all the same.
func TestNetTableLimits(t *testing.T) {
	for _, c := range []struct {
		m     net
		entry int
	}{
		{netOf(2, here(0, 5), here(0, 6)), 30}, {netOf(2, here(0, -5), here(0, 6)), -30}, {netOf(2, here(0, 4), here(0, 8)), 32}, {netOf(2, here(0, 4), here(0, -8)), -32},
		{netOf(2, here(0, 5), here(0, 6), up(0, 1), down(0, 1)), 60}, {netOf(2, up(0, 5), down(0, 6)), 31}, {netOf(2, up(0, 5), down(0, -6)), -29}, {netOf(2, up(0, -4), down(0, 8)), -31},
		{netOf(2, up(0, -4), down(0, 8), here(1, 9)), -31}, {netOf(2, up(0, 9), down(0, 9)), 82}, {netOf(5, here(0, 9), here(0, 9)), 81}, {net{2, times(10, here(0, 9))}, 3486784401},
		{net{2, times(9, here(0, -9))}, -387420489}, {netOf(2, up(0, 9), down(0, 9), up(0, 9), down(0, 9)), 6805},
		// What is in between is beyond the limits, but the table is not.
		{netOf(2, here(0, 9), here(0, 9), here(0, 0)), 0}, {netOf(2, here(0, 9), here(0, 9), up(0, 1), here(0, 0), down(0, 0)), 0},
		{netOf(2, here(0, 9), here(0, 9), up(0, 1), here(0, 0), here(1, 0)), 0}, {netOf(2, down(0, 9), up(0, 0), here(0, 9), here(0, 9), here(0, 0), here(1, 2)), 0},
	} {
		f := findPaths(c.m)
		if f.sums[0][0] != c.entry {
			t.Fatalf("the sum of %v is %d, not %d", c.m, f.sums[0][0], c.entry)
		}
		wantNet(t, c.m, f)
	}
	for _, sum := range []int{-32, -31, -30, -29, 29, 30, 31, 32} {
		for _, n := range lineCounts {
			sign := 1
			if sum < 0 {
				sign = -1
			}
			chips := []impl.Chip{up(n-2, 9*sign), up(n-2, 9*sign), up(n-2, 9*sign), up(n-2, sum-27*sign)}
			x, ok := impl.NetTable(n, chips)
			want := unit(n)
			want[n-2][n-1] = sum
			wantIf(t, call("NetTable", n, chips), x, ok, want)
			v, ok := impl.NetPaths(n, chips, n-2, n-1)
			wantValue(t, call("NetPaths", n, chips), v, ok, sum)
			x, ok = impl.NetTable(n, turnedChips(chips))
			wantIf(t, call("NetTable", n, "turned", chips), x, ok, turned(want))
		}
	}
}

// P56.

func TestPromise56(t *testing.T) {
	eachNet(func(m net) {
		back, ok := impl.NetTurn(m.n, m.chips)
		if !ok {
			t.Fatalf("NetTurn(%v) failed", m)
		}
		for i := range m.n {
			for k := range m.n {
				v, ok := impl.NetPaths(m.n, m.chips, i, k)
				if !ok {
					t.Fatalf("NetPaths(%v, %d, %d) failed", m, i, k)
				}
				w, ok := impl.NetFamilies(m.n, m.chips, 1<<i, 1<<k)
				wantValue(t, call("NetFamilies", m, "of the lines", i, k), w, ok, v)
				w, ok = impl.NetPaths(m.n, back, k, i)
				wantValue(t, call("NetPaths", m, "turned", k, i), w, ok, v)
			}
		}
	})
}

func TestNetPathsExamples(t *testing.T) {
	for _, c := range []struct {
		m                net
		i, k, sum, count int
	}{
		{netOf(2, up(0, 2), down(0, 3)), 0, 0, 7, 2}, {netOf(2, up(0, 2), down(0, 3)), 0, 1, 2, 1}, {netOf(2, up(0, 2), down(0, 3)), 1, 0, 3, 1}, {netOf(2, up(0, 2), down(0, 3)), 1, 1, 1, 1},
		{netOf(2, here(0, 0)), 0, 0, 0, 1}, {netOf(2, here(0, 0)), 0, 1, 0, 0}, {netOf(2, up(0, 0)), 0, 1, 0, 1}, {netOf(2, up(0, 9), up(0, -9)), 0, 1, 0, 2},
		{netOf(3, up(0, 2), here(1, -3), up(1, 5)), 0, 2, -30, 1}, {netOf(3, up(1, 5), up(0, 2)), 0, 2, 0, 0}, {net{2, times(5, up(0, 1), down(0, 1))}, 0, 0, 89, 89},
		{net{2, times(10, here(1, 9))}, 1, 1, 3486784401, 1}, {net{2, times(10, here(1, 9))}, 0, 0, 1, 1}, {net{2, times(10, up(0, 9))}, 0, 1, 90, 10},
		{netOf(5, up(0, 9), up(1, 9), up(2, 9), up(3, 9), here(4, 9), here(4, -9), down(3, 9), down(2, 9), down(1, 9), down(0, 9)), 0, 4, 6561 * -81, 1},
		{netOf(5, up(0, 9), up(1, 9), up(2, 9), up(3, 9), here(4, 9), here(4, -9), down(3, 9), down(2, 9), down(1, 9), down(0, 9)), 4, 0, 6561 * -81, 1},
	} {
		v, ok := impl.NetPaths(c.m.n, c.m.chips, c.i, c.k)
		wantValue(t, call("NetPaths", c.m, c.i, c.k), v, ok, c.sum)
		v, ok = impl.NetCount(c.m.n, c.m.chips, c.i, c.k)
		wantValue(t, call("NetCount", c.m, c.i, c.k), v, ok, c.count)
	}
}

// P57.

func TestPromise57(t *testing.T) {
	compared := 0
	eachNet(func(m net) {
		x, ok := impl.NetTable(m.n, m.chips)
		if !ok {
			return
		}
		for from := range 1 << m.n {
			for _, to := range setsOf(m.n, members(from)) {
				minor, ok := impl.ValueMinor(x, from, to)
				v, also := impl.NetFamilies(m.n, m.chips, from, to)
				if !ok || !also || v != minor {
					t.Errorf("NetFamilies(%v, %d, %d) is %d, the minor %d", m, from, to, v, minor)
				}
				compared++
			}
		}
	})
	if compared < 10000 {
		t.Errorf("only %d families were compared", compared)
	}
}

// TestNetFamiliesExamples has families of no lines, of one line and of all lines, and some of which weigh 0.
func TestNetFamiliesExamples(t *testing.T) {
	back := netOf(2, up(0, 2), down(0, 3))
	for _, c := range []struct {
		m             net
		from, to, sum int
	}{
		{back, 0, 0, 1}, {back, 3, 3, 1}, {back, 1, 1, 7}, {back, 1, 2, 2}, {back, 2, 1, 3}, {back, 2, 2, 1},
		{netOf(3, up(0, 2)), 1, 2, 2}, {netOf(3, up(0, 2)), 3, 3, 1}, {netOf(3, up(0, 2)), 5, 6, 2}, {netOf(3, up(0, 2)), 5, 5, 1}, {netOf(3, up(0, 2)), 6, 5, 0}, {netOf(3, up(0, 2)), 6, 6, 1},
		{netOf(3, up(1, 3), up(0, 2)), 3, 6, 6}, {netOf(3, up(0, 2), up(1, 3)), 3, 6, 0}, {netOf(3, up(0, 2), up(1, 3)), 3, 5, 3}, {netOf(3, up(1, 3), up(0, 2)), 7, 7, 1},
		{netOf(3, up(0, 2), up(1, 3), up(0, 5)), 3, 6, 15}, {netOf(3, up(0, 2), up(1, 3), up(0, 5)), 1, 4, 6}, {netOf(3, up(0, 2), up(1, 3), up(0, 5)), 1, 2, 7},
		{netOf(3, here(0, 2), here(1, -3), here(2, 5)), 7, 7, -30}, {netOf(3, here(0, 2), here(1, -3), here(2, 5)), 5, 5, 10}, {netOf(3, here(0, 2), here(1, -3), here(2, 5)), 0, 0, 1},
		{netOf(3, here(0, 0), here(1, -3)), 3, 3, 0}, {netOf(3, here(0, 0), here(1, -3)), 6, 6, -3}, {netOf(3, here(0, 0), here(1, -3)), 0, 0, 1}, {netOf(3, up(0, 0)), 1, 2, 0}, {netOf(3, up(0, 0)), 1, 1, 1},
		{netOf(2, up(0, 2), here(0, 0), down(0, 3)), 1, 1, 6}, {netOf(2, up(0, 2), here(1, 0), down(0, 3)), 1, 1, 1}, {netOf(2, up(0, 2), here(1, 0), down(0, 3)), 1, 2, 0},
		{net{5, times(10, here(4, -9))}, 31, 31, 3486784401}, {net{5, times(10, here(4, -9))}, 15, 15, 1}, {net{2, times(10, up(0, 9))}, 3, 3, 1}, {net{2, times(10, up(0, 9))}, 1, 2, 90},
		{netOf(4, up(0, 1), up(2, 1), down(1, 1)), 5, 6, 1}, {netOf(4, up(0, 1), up(2, 1), down(1, 1)), 5, 10, 1}, {netOf(4, up(0, 1), up(2, 1), down(1, 1)), 5, 3, 1}, {netOf(4, up(0, 1), up(2, 1), down(1, 1)), 9, 9, 1},
	} {
		v, ok := impl.NetFamilies(c.m.n, c.m.chips, c.from, c.to)
		wantValue(t, call("NetFamilies", c.m, c.from, c.to), v, ok, c.sum)
	}
}

// P58.

func TestPromise58(t *testing.T) {
	without, whole := 0, 0
	eachNet(func(m net) {
		all := 1<<m.n - 1
		v, ok := impl.NetFamilies(m.n, m.chips, all, all)
		wantValue(t, call("NetFamilies", m, "for all lines"), v, ok, hereProduct(m.chips))
		whole++
		v, ok = impl.NetFamilies(m.n, m.chips, 0, 0)
		wantValue(t, call("NetFamilies", m, "for no lines"), v, ok, 1)
		if hasNegative(m.chips) {
			return
		}
		without++
		for from := range 1 << m.n {
			for _, to := range setsOf(m.n, members(from)) {
				if v, ok := impl.NetFamilies(m.n, m.chips, from, to); !ok || v < 0 {
					t.Errorf("NetFamilies(%v, %d, %d) returned %d, %v", m, from, to, v, ok)
				}
			}
		}
	})
	if without < 500 || whole-without < 500 {
		t.Errorf("only %d nets have no negative weight, of %d", without, whole)
	}
}

// P59.

func TestPromise59(t *testing.T) {
	made := 0
	eachNet(func(m net) {
		back, ok := impl.NetTurn(m.n, m.chips)
		wantChips(t, call("NetTurn", m), back, ok, turnedChips(m.chips))
		again, ok := impl.NetTurn(m.n, back)
		wantChips(t, call("NetTurn twice", m), again, ok, m.chips)
		x, ok := impl.NetTable(m.n, m.chips)
		y, also := impl.NetTable(m.n, back)
		if ok {
			made++
			want, _ := impl.TableTurn(x)
			wantTable(t, call("NetTable of what is turned", m), y, also, want)
		} else {
			wantFailure(t, call("NetTable of what is turned", m), y, also)
		}
	})
	if made < 1000 {
		t.Errorf("only %d nets have tables", made)
	}
}

func TestNetTurnExamples(t *testing.T) {
	for _, c := range []struct {
		n           int
		chips, want []impl.Chip
	}{
		{2, []impl.Chip{up(0, 2)}, []impl.Chip{down(0, 2)}}, {2, []impl.Chip{down(0, -9)}, []impl.Chip{up(0, -9)}}, {5, []impl.Chip{here(4, 9)}, []impl.Chip{here(4, 9)}},
		{3, []impl.Chip{up(0, 2), here(2, 0), down(1, 3)}, []impl.Chip{up(1, 3), here(2, 0), down(0, 2)}}, {5, times(5, up(3, 1), down(0, 2)), times(5, up(0, 2), down(3, 1))},
	} {
		x, ok := impl.NetTurn(c.n, c.chips)
		wantChips(t, call("NetTurn", c.n, c.chips), x, ok, c.want)
	}
}

// P60.

func TestPromise60(t *testing.T) {
	made, tooMany, noTable := 0, 0, 0
	check := func(m, more net) {
		joined, ok := impl.NetJoin(m.n, m.chips, more.chips)
		if len(m.chips)+len(more.chips) > 10 {
			wantNoChips(t, call("NetJoin", m, more), joined, ok)
			tooMany++
			return
		}
		wantChips(t, call("NetJoin", m, more), joined, ok, append(slices.Clone(m.chips), more.chips...))
		x, ok := impl.NetTable(m.n, m.chips)
		y, also := impl.NetTable(m.n, more.chips)
		z, too := impl.NetTable(m.n, joined)
		if !ok || !also || !too {
			noTable++
			return
		}
		made++
		product, ok := impl.TableMake(x, y)
		wantTable(t, call("TableMake of the tables of", m, more), product, ok, z)
	}
	for _, n := range lineCounts {
		for count := range 11 {
			for other := range 11 {
				for seed := range 3 {
					for _, weights := range weightLists {
						check(sampleNet(n, count, weights, seed), sampleNet(n, other, weights, seed+50))
					}
				}
			}
		}
	}
	allNets(2, 2, []int{-1, 0, 3}, func(m net) {
		allNets(2, 1, []int{-1, 9}, func(more net) {
			check(m, more)
			check(more, m)
		})
	})
	if made < 1000 || tooMany < 1000 || noTable < 200 {
		t.Errorf("only %d nets joined have all tables, %d have too many chips, and %d lack a table", made, tooMany, noTable)
	}
}

// TestNetJoinLimits joins nets to ten chips and to eleven.
func TestNetJoinLimits(t *testing.T) {
	for _, n := range lineCounts {
		for count := range 11 {
			for other := range 11 {
				first, second := times(count, up(n-2, 9)), times(other, here(n-1, -9))
				x, ok := impl.NetJoin(n, first, second)
				if count+other <= 10 {
					wantChips(t, call("NetJoin", n, count, other), x, ok, append(slices.Clone(first), second...))
				} else {
					wantNoChips(t, call("NetJoin", n, count, other), x, ok)
				}
			}
		}
		for _, c := range [][2][]impl.Chip{
			{{up(0, 1)}, {up(n-1, 1)}}, {{up(n-1, 1)}, {up(0, 1)}}, {{here(n, 1)}, nil}, {nil, {here(n, 1)}}, {{here(0, 10)}, {here(0, 1)}}, {{here(0, 1)}, {here(0, -10)}},
			{times(11, here(0, 1)), nil}, {nil, times(11, here(0, 1))}, {{{Kind: "x"}}, {here(0, 1)}}, {{here(0, 1)}, {{Kind: "x"}}},
		} {
			x, ok := impl.NetJoin(n, c[0], c[1])
			wantNoChips(t, call("NetJoin", n, c), x, ok)
		}
	}
}

// P61.

func TestPromise61(t *testing.T) {
	eachNet(func(m net) {
		ones := withOnes(m.chips)
		for i := range m.n {
			for k := range m.n {
				v, ok := impl.NetCount(m.n, m.chips, i, k)
				w, also := impl.NetPaths(m.n, ones, i, k)
				if !ok || !also || v != w || i == k && v < 1 {
					t.Errorf("NetCount(%v, %d, %d) returned %d, %v, and NetPaths with weights 1 %d, %v", m, i, k, v, ok, w, also)
				}
			}
		}
	})
}

// P62.

func TestPromise62(t *testing.T) {
	alike, less := 0, 0
	check := func(m net) {
		most, ok := impl.NetMost(m.n, m.chips)
		if !ok || most < 0 || most > m.n {
			t.Errorf("NetMost(%v) returned %d, %v", m, most, ok)
		}
		x, ok := impl.NetTable(m.n, m.chips)
		if !ok {
			return
		}
		r := rank(t, x)
		if r > most || r < most && !hasNegative(m.chips) {
			t.Errorf("NetMost(%v) is %d, the rank %d", m, most, r)
		}
		if r < most {
			less++
		} else {
			alike++
		}
	}
	eachNet(check)
	for _, n := range lineCounts {
		for _, weight := range []int{1, 5, -9} {
			m := cancelling(n, weight)
			check(m)
			v, ok := impl.NetMost(n, m.chips)
			wantValue(t, call("NetMost", m), v, ok, n-1)
		}
	}
	if alike < 1000 || less < 12 {
		t.Errorf("only %d ranks are the most and %d are less", alike, less)
	}
}

// cancelling returns a net in which two paths lead from line 0 to line 1, none elsewhere, and none else to line 1,
// and their weights are the same with different signs: a family has a path more than the rank tells.
func cancelling(n, weight int) net {
	return netOf(n, here(1, 0), up(0, weight), up(0, -weight), here(0, 0))
}

func TestNetMostExamples(t *testing.T) {
	for _, c := range []struct {
		m    net
		most int
	}{
		{netOf(2), 2}, {netOf(5), 5}, {netOf(2, here(0, 0)), 1}, {netOf(2, here(0, 0), here(1, 0)), 0}, {netOf(2, here(0, 0), here(0, 0)), 1}, {netOf(2, up(0, 0), down(0, 0)), 2},
		{netOf(2, up(0, 1), here(0, 0), down(0, 1)), 1}, {netOf(2, here(0, 0), up(0, 1), here(1, 0)), 0}, {netOf(2, here(1, 0), up(0, 1), here(0, 0)), 1}, {netOf(2, here(1, 0), up(0, 0), here(0, 0)), 0},
		{netOf(2, here(1, 0), down(0, 1), here(0, 0)), 0}, {netOf(2, here(0, 0), down(0, -9), here(1, 0)), 1}, {netOf(3, here(0, 0), here(1, 0), here(2, 0)), 0}, {netOf(5, here(4, 0)), 4},
		{netOf(5, here(0, 0), here(1, 0), here(2, 0), here(3, 0), here(4, 0)), 0}, {netOf(5, here(0, 0), here(1, 0), here(2, 0), here(3, 0)), 1},
		{netOf(3, here(2, 0), up(1, 1), up(0, 1), here(0, 0)), 2}, {netOf(3, here(2, 0), up(0, 1), up(1, 1), here(0, 0)), 1}, {netOf(3, here(2, 0), up(0, 1), up(1, 1), here(0, 0), here(1, 0)), 1},
		// Two paths from line 0 to line 1 whose weights are 1 and -1 together: their sum is 0, but each one is not.
		{netOf(2, here(1, 0), up(0, 1), up(0, -1), here(0, 0)), 1}, {netOf(2, here(1, 0), up(0, 3), up(0, -3), here(0, 0)), 1},
		{net{2, times(10, here(0, 9))}, 2}, {net{5, times(10, here(4, -9))}, 5}, {net{5, append(times(9, here(4, -9)), here(4, 0))}, 4},
	} {
		v, ok := impl.NetMost(c.m.n, c.m.chips)
		wantValue(t, call("NetMost", c.m), v, ok, c.most)
	}
}

// Memory and arguments.

// looseChips returns a copy of chips in which memory with marks stands behind the end.
func looseChips(chips []impl.Chip) []impl.Chip {
	c := append(make([]impl.Chip, 0, len(chips)+12), chips...)
	for i := len(c); i < cap(c); i++ {
		c[:cap(c)][i] = impl.Chip{Kind: "mark", Line: mark, Weight: mark}
	}
	return c
}

// wholeChips returns what chips have up to their capacity, as a copy.
func wholeChips(chips []impl.Chip) []impl.Chip {
	return append([]impl.Chip{}, chips[:cap(chips)]...)
}

// scribbleChips writes marks over the whole memory of a result.
func scribbleChips(chips []impl.Chip) {
	for i := range chips[:cap(chips)] {
		chips[:cap(chips)][i] = impl.Chip{Kind: "mark", Line: mark, Weight: mark}
	}
}

// checkChipMemory calls a function with loose copies of two lists of chips and reports whether it changes them, and
// whether its result shares memory with them or with another result.
func checkChipMemory(t *testing.T, what string, chips, more []impl.Chip, function func(chips, more []impl.Chip) ([]impl.Chip, bool)) {
	t.Helper()
	a, b := looseChips(chips), looseChips(more)
	beforeA, beforeB := wholeChips(a), wholeChips(b)
	kept := func(when string) {
		t.Helper()
		if !slices.Equal(wholeChips(a), beforeA) || !slices.Equal(wholeChips(b), beforeB) {
			t.Fatalf("%s: an argument has changed after %s", what, when)
		}
	}
	x, ok := function(a, b)
	kept("the call")
	y, again := function(a, b)
	kept("the second call")
	want := slices.Clone(y)
	if !ok || !again || !slices.Equal(x, y) {
		t.Fatalf("%s returned %v, %v, then %v, %v", what, x, ok, y, again)
	}
	scribbleChips(x)
	kept("writing over the result")
	if !slices.Equal(y, want) {
		t.Fatalf("%s: two results share memory", what)
	}
	z, ok := function(a, b)
	if !ok || !slices.Equal(z, want) {
		t.Fatalf("%s returned %v, then %v, %v", what, want, z, ok)
	}
	scribbleChips(a)
	scribbleChips(b)
	if !slices.Equal(z, want) {
		t.Fatalf("%s: writing over an argument reaches the result", what)
	}
}

func TestNetMemory(t *testing.T) {
	for _, n := range lineCounts {
		for count := range 11 {
			m := sampleNet(n, count, []int{1, 2}, count)
			for other := range 11 - count {
				more := sampleNet(n, other, []int{-3}, count)
				checkChipMemory(t, "NetJoin", m.chips, more.chips, func(a, b []impl.Chip) ([]impl.Chip, bool) { return impl.NetJoin(n, a, b) })
			}
			checkChipMemory(t, "NetTurn", m.chips, nil, func(a, _ []impl.Chip) ([]impl.Chip, bool) { return impl.NetTurn(n, a) })
			if count <= 5 {
				checkChipMemory(t, "NetJoin of one and the same", m.chips, nil, func(a, _ []impl.Chip) ([]impl.Chip, bool) { return impl.NetJoin(n, a, a) })
			}
			small := sampleNet(n, count, []int{1, 0}, count)
			checkMemory(t, "NetTable", nil, func([][][]int) ([][]int, bool) { return impl.NetTable(n, small.chips) })
		}
	}
}

// callNets calls all functions of the chapter and returns what they return.
func callNets(n int, chips, more []impl.Chip, i, k int) []any {
	results := []any{impl.NetIn(n, chips), impl.NetIn(n, more)}
	x, ok := impl.NetTable(n, chips)
	results = append(results, x, ok)
	for _, function := range []func(int, []impl.Chip, int, int) (int, bool){impl.NetPaths, impl.NetFamilies, impl.NetCount} {
		v, ok := function(n, chips, i, k)
		results = append(results, v, ok)
	}
	back, ok := impl.NetTurn(n, chips)
	joined, also := impl.NetJoin(n, chips, more)
	v, too := impl.NetMost(n, chips)
	return append(results, back, ok, joined, also, v, too)
}

// TestNetsKeepArguments calls all functions, also for what makes them fail.
func TestNetsKeepArguments(t *testing.T) {
	all := append(nets(), noNets()...)
	for i, m := range all {
		if len(m.chips) > 100 {
			continue
		}
		a, b := looseChips(m.chips), looseChips(all[(i*7+3)%len(nets())].chips)
		beforeA, beforeB := wholeChips(a), wholeChips(b)
		for _, ends := range [][2]int{{0, 0}, {1, 0}, {1, 2}, {3, 3}, {-1, 0}, {0, 100}} {
			first := callNets(m.n, a, b, ends[0], ends[1])
			if second := callNets(m.n, a, b, ends[0], ends[1]); !reflect.DeepEqual(first, second) {
				t.Errorf("two calls for %v differ", m)
			}
		}
		if !slices.Equal(wholeChips(a), beforeA) || !slices.Equal(wholeChips(b), beforeB) {
			t.Errorf("the argument %v has changed", m)
		}
	}
}
