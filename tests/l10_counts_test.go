package tests

import (
	"slices"
	"strings"
	"sync"
	"testing"

	"loop.example/mirrorgrids/impl"
)

// call tells a call for numbers of rows and columns in what a test says.
func (s countedSides) call(call string) string {
	return pairsName(call, nil, s.n, s.m)
}

// countRounds calls CountRounds, which must succeed and have a first place.
func countRounds(t *testing.T, n, m int) []int {
	t.Helper()
	counts, ok := impl.CountRounds(n, m)
	if !ok || len(counts) == 0 {
		t.Fatalf("%s returned %v, %v", pairsName("CountRounds", nil, n, m), counts, ok)
	}
	return counts
}

// toldCount is what is told of the full grids of n rows and m columns.
type toldCount struct {
	n, m   int
	rounds []int
	total  int
	ports  []int
}

// toldCounts returns numbers of rows and columns with what is told of them.
// A square of 4 cells has a round in one of 16 cases, and two squares beside each other never both, so that 2 rows and 3 columns have 2 times 4 grids with a round. 2 rows and 4 columns have 1 with two, and 3 times 16 rounds.
// 3 rows and 3 columns have 4 times 32 such rounds, and 8 that go through the middle twice; 2 times 4 grids have two rounds.
func toldCounts() []toldCount {
	return []toldCount{
		{1, 1, []int{2}, 0, []int{0, 1, 0, 1}},
		{1, 2, []int{4}, 0, []int{0, 1, 0, 1, 0, 2}},
		{1, 3, []int{8}, 0, []int{0, 2, 0, 0, 0, 2, 0, 4}},
		{1, 4, []int{16}, 0, []int{0, 4, 0, 0, 0, 0, 0, 4, 0, 8}},
		{1, 5, []int{32}, 0, []int{0, 8, 0, 0, 0, 0, 0, 0, 0, 8, 0, 16}},
		{2, 1, []int{4}, 0, []int{0, 2, 0, 0, 0, 2}},
		{2, 2, []int{15, 1}, 1, []int{0, 4, 0, 2, 0, 1, 0, 9}},
		{2, 3, []int{56, 8}, 8, []int{0, 18, 0, 2, 0, 4, 0, 4, 0, 36}},
		{2, 4, []int{209, 46, 1}, 48, []int{0, 72, 0, 4, 0, 2, 0, 18, 0, 16, 0, 144}},
		{3, 1, []int{8}, 0, []int{0, 4, 0, 0, 0, 0, 0, 4}},
		{3, 2, []int{56, 8}, 8, []int{0, 16, 0, 9, 0, 1, 0, 2, 0, 36}},
		{3, 3, []int{384, 120, 8}, 136, []int{0, 146, 0, 18, 0, 18, 0, 20, 0, 18, 0, 292}},
		{4, 1, []int{16}, 0, []int{0, 8, 0, 0, 0, 0, 0, 0, 0, 8}},
		{4, 2, []int{209, 46, 1}, 48, []int{0, 64, 0, 36, 0, 2, 0, 1, 0, 9, 0, 144}},
		{5, 1, []int{32}, 0, []int{0, 16, 0, 0, 0, 0, 0, 0, 0, 0, 0, 16}},
	}
}

// The full grids of the tests have what the promises tell apart.
func TestCountingSamples(t *testing.T) {
	seen := map[string]int{}
	sides := [][2]int{}
	for _, s := range allCounted() {
		sides = append(sides, [2]int{s.n, s.m})
		for at, g := range s.grids {
			d := draw(g)
			for kind, is := range map[string]bool{
				"no rounds":            d.rounds == 0 && s.n > 1 && s.m > 1,
				"one round":            d.rounds == 1,
				"two rounds":           d.rounds == 2,
				"long round":           d.rounds > 0 && slices.Max(d.lengths) > 4,
				"beam that goes twice": follow(g, 0).twice() > 0,
				"beam that goes back":  s.partner[at] < s.m,
			} {
				if is {
					seen[kind]++
				}
			}
		}
	}
	for _, kind := range []string{"no rounds", "one round", "two rounds", "long round", "beam that goes twice", "beam that goes back"} {
		if seen[kind] == 0 {
			t.Errorf("no full grid is of the kind: %s", kind)
		}
	}
	if want := [][2]int{{1, 1}, {1, 2}, {1, 3}, {1, 4}, {1, 5}, {2, 1}, {2, 2}, {2, 3}, {2, 4}, {3, 1}, {3, 2}, {3, 3}, {4, 1}, {4, 2}, {5, 1}}; !slices.Equal(sides, want) {
		t.Errorf("full grids are counted for %v", sides)
	}
}

// Promise 84: each full grid is counted once, the last place is RoundMost, and as many grids have as many rounds with rows and columns exchanged.
func TestP84CountRounds(t *testing.T) {
	for _, s := range allCounted() {
		counts := countRounds(t, s.n, s.m)
		wantNumbers(t, s.call("CountRounds"), counts, true, s.ofRounds()...)
		wantNumber(t, s.call("the sum of CountRounds"), sum(counts), true, 1<<(s.n*s.m))
		most, ok := impl.RoundMost(s.n, s.m)
		wantNumber(t, s.call("RoundMost"), most, ok, len(counts)-1)
		if counts[len(counts)-1] == 0 {
			t.Errorf("%s has no grids in the last place", s.call("CountRounds"))
		}
		wantNumbers(t, s.call("exchanged, CountRounds"), countRounds(t, s.m, s.n), true, counts...)
	}
}

func TestP84RoundsTold(t *testing.T) {
	for _, c := range toldCounts() {
		counts, ok := impl.CountRounds(c.n, c.m)
		wantNumbers(t, pairsName("CountRounds", nil, c.n, c.m), counts, ok, c.rounds...)
	}
}

// The grids of one row or one column are all in the first place, which is the last one.
func TestP84OneRow(t *testing.T) {
	for cells := 1; cells <= impl.SideMax; cells++ {
		for _, sides := range [][2]int{{1, cells}, {cells, 1}} {
			n, m := sides[0], sides[1]
			wantNumbers(t, pairsName("CountRounds", nil, n, m), countRounds(t, n, m), true, 1<<cells)
			counts, ok := impl.CountJoined(n, m)
			wantNumbers(t, pairsName("CountJoined", nil, n, m), counts, ok, 1<<cells)
		}
	}
}

// Promise 85: joining columns tells the same counts as trying all grids.
func TestP85CountJoined(t *testing.T) {
	for _, s := range allCounted() {
		counts, ok := impl.CountJoined(s.n, s.m)
		wantNumbers(t, s.call("CountJoined"), counts, ok, countRounds(t, s.n, s.m)...)
		wantNumbers(t, s.call("CountJoined"), counts, ok, s.ofRounds()...)
	}
}

func TestP85JoinedTold(t *testing.T) {
	for _, c := range toldCounts() {
		counts, ok := impl.CountJoined(c.n, c.m)
		wantNumbers(t, pairsName("CountJoined", nil, c.n, c.m), counts, ok, c.rounds...)
	}
}

// Promise 86: there are at least as many rounds as squares of 4 cells make, one in 16 of them, and none exactly for one row or one column.
func TestP86CountTotal(t *testing.T) {
	for _, s := range allCounted() {
		total, ok := impl.CountTotal(s.n, s.m)
		wantNumber(t, s.call("CountTotal"), total, ok, sum(s.rounds))
		ofCounts := 0
		for rounds, grids := range countRounds(t, s.n, s.m) {
			ofCounts += rounds * grids
		}
		wantNumber(t, s.call("CountTotal"), total, ok, ofCounts)
		if least := 1 << (s.n * s.m) * (s.n - 1) * (s.m - 1); 16*total < least {
			t.Errorf("%s is %d, and 16 times this less than %d", s.call("CountTotal"), total, least)
		}
		if (total == 0) != (s.n == 1 || s.m == 1) {
			t.Errorf("%s is %d", s.call("CountTotal"), total)
		}
	}
}

func TestP86TotalTold(t *testing.T) {
	for _, c := range toldCounts() {
		total, ok := impl.CountTotal(c.n, c.m)
		wantNumber(t, pairsName("CountTotal", nil, c.n, c.m), total, ok, c.total)
	}
}

// Promise 87: in each full grid the port 0 has one partner, which is another port, with an odd number.
func TestP87CountPorts(t *testing.T) {
	for _, s := range allCounted() {
		counts, ok := impl.CountPorts(s.n, s.m)
		wantNumbers(t, s.call("CountPorts"), counts, ok, s.ofPorts()...)
		wantNumber(t, s.call("the number of ports of CountPorts"), len(counts), true, 2*s.n+2*s.m)
		wantNumber(t, s.call("the sum of CountPorts"), sum(counts), true, 1<<(s.n*s.m))
		for port := 0; port < len(counts); port += 2 {
			wantNumber(t, pairsName("CountPorts, at a port,", nil, s.n, s.m, port), counts[port], true, 0)
		}
	}
}

func TestP87PortsTold(t *testing.T) {
	for _, c := range toldCounts() {
		counts, ok := impl.CountPorts(c.n, c.m)
		wantNumbers(t, pairsName("CountPorts", nil, c.n, c.m), counts, ok, c.ports...)
	}
}

// In one row, r in the first cell leads to the left end, and f to an end of the second column; in one column, r leads to the left end of the first row, and f to its right end.
func TestP87OneRow(t *testing.T) {
	for m := 2; m <= impl.SideMax; m++ {
		want := make([]int, 2+2*m)
		want[2*m+1], want[1], want[2*m-1] = 1<<(m-1), 1<<(m-2), 1<<(m-2)
		counts, ok := impl.CountPorts(1, m)
		wantNumbers(t, pairsName("CountPorts", nil, 1, m), counts, ok, want...)
	}
	for n := 1; n <= impl.SideMax; n++ {
		want := make([]int, 2*n+2)
		want[2*n+1], want[1] = 1<<(n-1), 1<<(n-1)
		counts, ok := impl.CountPorts(n, 1)
		wantNumbers(t, pairsName("CountPorts", nil, n, 1), counts, ok, want...)
	}
}

// Promise 88: the two full grids of one letter alone have no rounds, so that there are two at least in the first place.
func TestP88CountRounds(t *testing.T) {
	for _, s := range allCounted() {
		for _, letter := range []string{"r", "f"} {
			g := gridOfLetters(strings.Repeat(letter, s.n*s.m), s.m)
			wantNumber(t, name("RoundMany", g), ofGrid(t, "RoundMany", impl.RoundMany, g), true, 0)
		}
		if first := countRounds(t, s.n, s.m)[0]; first < 2 {
			t.Errorf("%s has %d grids in the first place", s.call("CountRounds"), first)
		}
	}
}

func TestP88FirstTold(t *testing.T) {
	for _, c := range toldCounts() {
		wantNumber(t, pairsName("the first place of CountRounds", nil, c.n, c.m), countRounds(t, c.n, c.m)[0], true, c.rounds[0])
	}
	// No other grids are in the first place of one cell.
	wantNumber(t, "the first place of CountRounds 1 1", countRounds(t, 1, 1)[0], true, 2)
}

// wantNoFullCounts checks that nothing is counted for numbers of rows and columns.
func wantNoFullCounts(t *testing.T, n, m int) {
	t.Helper()
	counts, ok := impl.CountRounds(n, m)
	wantNoNumbers(t, pairsName("CountRounds", nil, n, m), counts, ok)
	counts, ok = impl.CountJoined(n, m)
	wantNoNumbers(t, pairsName("CountJoined", nil, n, m), counts, ok)
	total, ok := impl.CountTotal(n, m)
	wantNoNumber(t, pairsName("CountTotal", nil, n, m), total, ok)
	counts, ok = impl.CountPorts(n, m)
	wantNoNumbers(t, pairsName("CountPorts", nil, n, m), counts, ok)
}

// 2 rows and 5 columns have just one cell more than are counted.
func TestCountingOfMoreCells(t *testing.T) {
	sides := sidesWithMore(countedCells)
	for _, two := range sides {
		wantNoFullCounts(t, two[0], two[1])
	}
	for _, two := range [][2]int{{2, 5}, {5, 2}} {
		if !slices.Contains(sides, two) {
			t.Errorf("%v are none of %v", two, sides)
		}
	}
}

func TestCountingOfNoSides(t *testing.T) {
	// Some of these have as few cells as grids that are counted, or products that are no numbers of their own.
	others := [][2]int{{0, 0}, {0, 1}, {1, 0}, {0, 5}, {5, 0}, {1, 6}, {6, 1}, {1, 9}, {9, 1}, {1, 10}, {10, 1}, {-1, -1}, {-1, 1}, {1, -1}, {-3, -3}, {-2, -4}, {-1, 5}, {5, -1}, {1 << 32, 1 << 32}, {1<<32 + 1, 1}, {1, 1<<32 + 1}, {1<<63 - 1, 1<<63 - 1}, {-1 << 63, -1 << 63}, {-1 << 63, 2}, {1 << 62, 4}}
	for _, two := range append(sidesFor(), others...) {
		wantNoFullCounts(t, two[0], two[1])
	}
}

func TestCountingSharesNoMemory(t *testing.T) {
	for _, c := range toldCounts() {
		for call, f := range map[string]func(n int, m int) ([]int, bool){"CountRounds": impl.CountRounds, "CountJoined": impl.CountJoined, "CountPorts": impl.CountPorts} {
			wantOwnMemory(t, pairsName(call, nil, c.n, c.m), -7, func() ([]int, bool) { return f(c.n, c.m) })
		}
	}
}

// Calls at the same time return the same, and so do later ones: nothing that was counted for other rows and columns stays.
func TestCountingAtOnce(t *testing.T) {
	var calls sync.WaitGroup
	for first := range 8 {
		calls.Go(func() {
			told := toldCounts()
			for _, c := range slices.Concat(told[first:], told[:first], told) {
				rounds, ok := impl.CountRounds(c.n, c.m)
				wantNumbers(t, pairsName("CountRounds", nil, c.n, c.m), rounds, ok, c.rounds...)
				joined, ok := impl.CountJoined(c.n, c.m)
				wantNumbers(t, pairsName("CountJoined", nil, c.n, c.m), joined, ok, c.rounds...)
				total, ok := impl.CountTotal(c.n, c.m)
				wantNumber(t, pairsName("CountTotal", nil, c.n, c.m), total, ok, c.total)
				ports, ok := impl.CountPorts(c.n, c.m)
				wantNumbers(t, pairsName("CountPorts", nil, c.n, c.m), ports, ok, c.ports...)
			}
		})
	}
	calls.Wait()
}
