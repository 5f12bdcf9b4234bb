package tests

import (
	"slices"
	"strconv"
	"strings"
	"testing"

	"loop.example/mirrorgrids/impl"
)

// ofGrid calls a function that must succeed for a grid.
func ofGrid[T any](t *testing.T, call string, f func([]string) (T, bool), g []string) T {
	t.Helper()
	got, ok := f(g)
	must(t, ok, call, g)
	return got
}

// cellsOf returns the number of cells of a grid.
func cellsOf(g []string) int {
	return len(g) * len(g[0])
}

// everyDrawing calls check for each of roundGrids with its drawing.
func everyDrawing(check func(g []string, want drawing)) {
	for _, g := range roundGrids() {
		check(g, draw(g))
	}
}

// The grids of the tests have what the promises tell apart: mirrors without rounds, cells of one round twice, and cells of two rounds.
func TestRoundGrids(t *testing.T) {
	mirrorsAlone, self, two := 0, 0, 0
	everyDrawing(func(g []string, want drawing) {
		if want.rounds == 0 && strings.Trim(strings.Join(g, ""), ".") != "" {
			mirrorsAlone++
		}
		for _, rounds := range want.passages {
			if rounds[0] >= 0 && rounds[0] == rounds[1] {
				self++
			} else if rounds[0] >= 0 && rounds[1] >= 0 {
				two++
			}
		}
	})
	if mirrorsAlone == 0 || self == 0 || two == 0 {
		t.Errorf("%d grids without rounds, %d cells of one round twice, %d cells of two rounds", mirrorsAlone, self, two)
	}
}

// Promise 24: a grid has as many rounds turned and flipped, and none exactly if there is no least cell of one.
func TestP24RoundMany(t *testing.T) {
	everyDrawing(func(g []string, want drawing) {
		many, ok := impl.RoundMany(g)
		wantNumber(t, name("RoundMany", g), many, ok, want.rounds)
		for _, moved := range [][]string{turn(t, g), flip(t, g)} {
			got, ok := impl.RoundMany(moved)
			wantNumber(t, name("RoundMany", moved), got, ok, many)
		}
		if _, ok := impl.RoundLeast(g); ok != (many > 0) {
			t.Errorf("%s is %d, but RoundLeast succeeds: %v", name("RoundMany", g), many, ok)
		}
	})
}

func TestP24ManyTold(t *testing.T) {
	for _, c := range []struct {
		g    []string
		want int
	}{
		{[]string{"."}, 0},
		{[]string{"r"}, 0},
		{[]string{"f"}, 0},
		{[]string{"rfrfr"}, 0},
		{[]string{"..", ".."}, 0},
		{[]string{"fr", "rf"}, 0},
		{[]string{"rf", "fr"}, 1},
		{[]string{"rf", "f."}, 0},
		{[]string{"r.f", "f.r"}, 1},
		{crossingGrid, 0},
		{touchingGrid, 0},
		{crossingRound, 1},
		{touchingRound, 1},
		{meetingRounds, 2},
		{crossingRounds, 2},
		{chainRound, 1},
		{borderRound, 1},
		{gridOfLetters(strings.Repeat(".", 25), 5), 0},
		{gridOfLetters(strings.Repeat("r", 25), 5), 0},
		{gridOfLetters(checkered(5, 5), 5), 8},
	} {
		many, ok := impl.RoundMany(c.g)
		wantNumber(t, name("RoundMany", c.g), many, ok, c.want)
	}
}

// Promise 25: the paths are the rounds and one beam for each row and each column.
func TestP25RoundPaths(t *testing.T) {
	everyDrawing(func(g []string, want drawing) {
		paths, ok := impl.RoundPaths(g)
		wantNumber(t, name("RoundPaths", g), paths, ok, want.rounds+want.beams)
		many := ofGrid(t, "RoundMany", impl.RoundMany, g)
		wantNumber(t, name("RoundPaths", g), paths, ok, many+len(g)+len(g[0]))
	})
	for _, c := range []struct {
		g    []string
		want int
	}{{[]string{"."}, 2}, {[]string{"r"}, 2}, {[]string{"....."}, 6}, {[]string{"rf", "fr"}, 5}, {meetingRounds, 8}, {borderRound, 11}} {
		paths, ok := impl.RoundPaths(c.g)
		wantNumber(t, name("RoundPaths", c.g), paths, ok, c.want)
	}
}

// Promise 26: lengths are even, at least 4 and in order, and rounds and beams together go through each cell twice.
func TestP26RoundLengths(t *testing.T) {
	everyDrawing(func(g []string, want drawing) {
		lengths, ok := impl.RoundLengths(g)
		wantNumbers(t, name("RoundLengths", g), lengths, ok, want.lengths...)
		if !slices.IsSorted(lengths) {
			t.Errorf("%s is %v", name("RoundLengths", g), lengths)
		}
		all := sum(lengths)
		for _, length := range lengths {
			if length < 4 || length%2 != 0 {
				t.Errorf("%s is %v", name("RoundLengths", g), lengths)
			}
		}
		for port, end := range ofGrid(t, "BeamPairs", impl.BeamPairs, g) {
			if port < end {
				all += ofBeam(t, "BeamLength", impl.BeamLength, g, port)
			}
		}
		wantNumber(t, "the sum of all lengths of "+strings.Join(g, "/"), all, true, 2*cellsOf(g))
	})
}

func TestP26LengthsTold(t *testing.T) {
	for _, c := range []struct {
		g    []string
		want []int
	}{
		{[]string{"."}, nil},
		{[]string{"rf"}, nil},
		{[]string{"...", "...", "..."}, nil},
		{[]string{"fr", "rf"}, nil},
		{[]string{"rf", "fr"}, []int{4}},
		{[]string{"r.f", "f.r"}, []int{6}},
		{crossingRound, []int{8}},
		{touchingRound, []int{8}},
		{meetingRounds, []int{4, 4}},
		{crossingRounds, []int{8, 8}},
		{chainRound, []int{16}},
		{borderRound, []int{16}},
		{[]string{"r.f..", ".....", "f.r..", "...rf", "...fr"}, []int{4, 8}},
		{gridOfLetters(checkered(5, 5), 5), []int{4, 4, 4, 4, 4, 4, 4, 4}},
	} {
		lengths, ok := impl.RoundLengths(c.g)
		wantNumbers(t, name("RoundLengths", c.g), lengths, ok, c.want...)
	}
}

// Promise 27: a round begins with the cell, goes from neighbour to neighbour and back to it, and its length is one of the lengths.
func TestP27RoundCells(t *testing.T) {
	everyDrawing(func(g []string, want drawing) {
		lengths := ofGrid(t, "RoundLengths", impl.RoundLengths, g)
		for cell := range cellsOf(g) {
			steps := 0
			for d := range 4 {
				cells, ok := impl.RoundCells(g, cell, d)
				round := ring(g, cell, d)
				if round == nil {
					wantNoNumbers(t, name("RoundCells", g, cell, d), cells, ok)
					continue
				}
				steps++
				wantNumbers(t, name("RoundCells", g, cell, d), cells, ok, round...)
				if cells[0] != cell || !slices.Contains(lengths, len(cells)) {
					t.Errorf("%s is %v, and the lengths are %v", name("RoundCells", g, cell, d), cells, lengths)
				}
				wantNeighbours(t, name("RoundCells", g, cell, d), len(g[0]), cells)
			}
			wantNumber(t, name("twice the passages of rounds at", g, cell), steps, true, 2*want.at(cell))
		}
	})
}

// wantNeighbours checks that each cell is beside the next one, and the last one beside the first one, in a grid of m columns.
func wantNeighbours(t *testing.T, what string, m int, cells []int) {
	t.Helper()
	for at, cell := range cells {
		next := cells[(at+1)%len(cells)]
		inRow := cell/m == next/m && (cell == next+1 || cell == next-1)
		inColumn := cell == next+m || cell == next-m
		if !inRow && !inColumn {
			t.Errorf("%s is %v, but %d is not beside %d", what, cells, cell, next)
		}
	}
}

func TestP27CellsTold(t *testing.T) {
	for _, c := range []struct {
		g       []string
		cell, d int
		want    []int
	}{
		{[]string{"rf", "fr"}, 0, 0, []int{0, 1, 3, 2}},
		{[]string{"rf", "fr"}, 0, 3, []int{0, 2, 3, 1}},
		{[]string{"rf", "fr"}, 3, 2, []int{3, 2, 0, 1}},
		{[]string{"rf", "fr"}, 3, 1, []int{3, 1, 0, 2}},
		{[]string{"r.f", "f.r"}, 1, 1, []int{1, 2, 5, 4, 3, 0}},
		{[]string{"r.f", "f.r"}, 1, 3, []int{1, 0, 3, 4, 5, 2}},
		{crossingRound, 4, 0, []int{4, 1, 0, 3, 4, 5, 8, 7}},
		{crossingRound, 4, 1, []int{4, 5, 8, 7, 4, 1, 0, 3}},
		{crossingRound, 4, 2, []int{4, 7, 8, 5, 4, 3, 0, 1}},
		{crossingRound, 4, 3, []int{4, 3, 0, 1, 4, 7, 8, 5}},
		{crossingRound, 0, 0, []int{0, 1, 4, 7, 8, 5, 4, 3}},
		{touchingRound, 4, 0, []int{4, 3, 0, 1, 4, 5, 8, 7}},
		{touchingRound, 4, 3, []int{4, 1, 0, 3, 4, 7, 8, 5}},
		{meetingRounds, 4, 0, []int{4, 5, 8, 7}},
		{meetingRounds, 4, 1, []int{4, 1, 0, 3}},
		{meetingRounds, 4, 2, []int{4, 3, 0, 1}},
		{meetingRounds, 4, 3, []int{4, 7, 8, 5}},
		{borderRound, 20, 3, []int{20, 15, 10, 5, 0, 1, 2, 3, 4, 9, 14, 19, 24, 23, 22, 21}},
	} {
		cells, ok := impl.RoundCells(c.g, c.cell, c.d)
		wantNumbers(t, name("RoundCells", c.g, c.cell, c.d), cells, ok, c.want...)
	}
}

func TestP27CellsOfBeams(t *testing.T) {
	for _, c := range []struct {
		g       []string
		cell, d int
	}{
		{[]string{"."}, 0, 0},
		{[]string{"r"}, 0, 1},
		{[]string{"rf", "fr"}, 0, 1},
		{[]string{"rf", "fr"}, 0, 2},
		{[]string{"rf", "fr"}, 3, 0},
		{[]string{"rf", "fr"}, 3, 3},
		{[]string{"r.f", "f.r"}, 1, 0},
		{[]string{"r.f", "f.r"}, 1, 2},
		{crossingGrid, 0, 0},
		{touchingGrid, 0, 3},
		{borderRound, 12, 1},
	} {
		cells, ok := impl.RoundCells(c.g, c.cell, c.d)
		wantNoNumbers(t, name("RoundCells", c.g, c.cell, c.d), cells, ok)
	}
}

// entered reports whether RoundCells succeeds for a cell and some direction.
func entered(g []string, cell int) bool {
	for d := range 4 {
		if _, ok := impl.RoundCells(g, cell, d); ok {
			return true
		}
	}
	return false
}

// Promise 28: a round goes through the least cell, and none through a lesser one.
func TestP28RoundLeast(t *testing.T) {
	everyDrawing(func(g []string, want drawing) {
		least, ok := impl.RoundLeast(g)
		if want.least() < 0 {
			wantNoNumber(t, name("RoundLeast", g), least, ok)
			return
		}
		wantNumber(t, name("RoundLeast", g), least, ok, want.least())
		if !entered(g, least) {
			t.Errorf("%s is %d, where RoundCells fails", name("RoundLeast", g), least)
		}
		for cell := range least {
			if entered(g, cell) {
				t.Errorf("%s is %d, but RoundCells succeeds for %d", name("RoundLeast", g), least, cell)
			}
		}
	})
}

func TestP28LeastTold(t *testing.T) {
	for _, c := range []struct {
		g    []string
		want int
	}{
		{[]string{"rf", "fr"}, 0},
		{[]string{".rf", ".fr"}, 1},
		{[]string{"..", "rf", "fr"}, 2},
		{[]string{"....", ".rf.", ".fr."}, 5},
		{[]string{"...rf", "rf.fr", "fr..."}, 3},
		{[]string{"rf...", "fr.rf", "...fr"}, 0},
		{[]string{".....", ".....", ".....", "...rf", "...fr"}, 18},
	} {
		least, ok := impl.RoundLeast(c.g)
		wantNumber(t, name("RoundLeast", c.g), least, ok, c.want)
	}
	for _, g := range [][]string{{"."}, {"r"}, {"....."}, {"r", "f"}, {"..", ".."}, {"ff", "ff"}, crossingGrid, touchingGrid} {
		least, ok := impl.RoundLeast(g)
		wantNoNumber(t, name("RoundLeast", g), least, ok)
	}
}

// mostRounds draws all full grids of n rows and m columns and returns the greatest number of rounds of one.
func mostRounds(n, m int) int {
	most := 0
	for _, g := range fullGrids(n, m) {
		most = max(most, draw(g).rounds)
	}
	return most
}

// Promise 29: the most rounds are as many with both numbers exchanged, and no fewer than those of RoundFull.
func TestP29RoundMost(t *testing.T) {
	for n := 1; n <= impl.SideMax; n++ {
		for m := 1; m <= impl.SideMax; m++ {
			what := "RoundMost " + strconv.Itoa(n) + " " + strconv.Itoa(m)
			most, ok := impl.RoundMost(n, m)
			if n*m > 9 {
				wantNoNumber(t, what, most, ok)
				continue
			}
			wantNumber(t, what, most, ok, mostRounds(n, m))
			other, ok := impl.RoundMost(m, n)
			wantNumber(t, what+" exchanged", other, ok, most)
			g, ok := impl.RoundFull(n, m)
			must(t, ok, "RoundFull", g)
			if many := ofGrid(t, "RoundMany", impl.RoundMany, g); most < many {
				t.Errorf("%s is %d, but RoundFull has %d rounds", what, most, many)
			}
		}
	}
}

func TestP29MostTold(t *testing.T) {
	for _, c := range []struct{ n, m, want int }{{1, 1, 0}, {1, 5, 0}, {5, 1, 0}, {2, 2, 1}, {2, 3, 1}, {3, 2, 1}, {2, 4, 2}, {4, 2, 2}, {3, 3, 2}} {
		most, ok := impl.RoundMost(c.n, c.m)
		wantNumber(t, "RoundMost "+strconv.Itoa(c.n)+" "+strconv.Itoa(c.m), most, ok, c.want)
	}
}

// Numbers of rows and columns that RoundMost and RoundFull do not take, among them such whose product is no number of its own.
func TestP29P30OtherSizes(t *testing.T) {
	numbers := append(someNumbers(), 9, 10, 1<<31, 1<<32, 1<<61, 1<<62, -1<<32, -1<<62)
	for _, n := range numbers {
		for _, m := range numbers {
			what := strconv.Itoa(n) + " " + strconv.Itoa(m)
			if n < 1 || n > 5 || m < 1 || m > 5 {
				most, ok := impl.RoundMost(n, m)
				wantNoNumber(t, "RoundMost "+what, most, ok)
				g, ok := impl.RoundFull(n, m)
				wantNoGrid(t, "RoundFull "+what, g, ok)
			}
		}
	}
}

// Promise 30: RoundFull is full, and has as many rounds of 4 cells as told.
func TestP30RoundFull(t *testing.T) {
	for n := 1; n <= impl.SideMax; n++ {
		for m := 1; m <= impl.SideMax; m++ {
			g, ok := impl.RoundFull(n, m)
			wantGrid(t, "RoundFull", g, ok, gridOfLetters(checkered(n, m), m))
			if !impl.GridFull(g) {
				t.Errorf("GridFull does not hold for %q", g)
			}
			many, ok := impl.RoundMany(g)
			wantNumber(t, name("RoundMany", g), many, ok, ((n-1)*(m-1)+1)/2)
			lengths, ok := impl.RoundLengths(g)
			wantNumbers(t, name("RoundLengths", g), lengths, ok, slices.Repeat([]int{4}, many)...)
		}
	}
}

func TestP30FullTold(t *testing.T) {
	for _, want := range [][]string{
		{"r"},
		{"rf"},
		{"r", "f"},
		{"rf", "fr"},
		{"rfr", "frf"},
		{"rfr", "frf", "rfr", "frf"},
		{"rfrfr", "frfrf", "rfrfr", "frfrf", "rfrfr"},
	} {
		g, ok := impl.RoundFull(len(want), len(want[0]))
		wantGrid(t, "RoundFull", g, ok, want)
	}
}

// Promise 31: one row or one column has no rounds, and each round takes two cells at least.
func TestP31RoundMany(t *testing.T) {
	lines := 0
	everyDrawing(func(g []string, want drawing) {
		many := ofGrid(t, "RoundMany", impl.RoundMany, g)
		if 2*many > cellsOf(g) {
			t.Errorf("%s is %d for %d cells", name("RoundMany", g), many, cellsOf(g))
		}
		if len(g) == 1 || len(g[0]) == 1 {
			lines++
			wantNumber(t, name("RoundMany", g), many, true, 0)
		}
	})
	if lines == 0 {
		t.Error("there are no grids of one row or one column")
	}
}

// Promise 32: rounds go through a cell at most twice, and through all cells as often as their lengths tell.
func TestP32RoundAt(t *testing.T) {
	everyDrawing(func(g []string, want drawing) {
		all := 0
		for cell := range cellsOf(g) {
			at, ok := impl.RoundAt(g, cell)
			wantNumber(t, name("RoundAt", g, cell), at, ok, want.at(cell))
			if at < 0 || at > 2 {
				t.Errorf("%s is %d", name("RoundAt", g, cell), at)
			}
			all += at
		}
		if lengths := ofGrid(t, "RoundLengths", impl.RoundLengths, g); sum(lengths) != all {
			t.Errorf("%s adds up to %d, but RoundLengths is %v", name("RoundAt", g), all, lengths)
		}
	})
}

func TestP32AtTold(t *testing.T) {
	for _, c := range []struct {
		g    []string
		want []int
	}{
		{[]string{"."}, []int{0}},
		{[]string{"r"}, []int{0}},
		{[]string{"rf", "fr"}, []int{1, 1, 1, 1}},
		{[]string{"fr", "rf"}, []int{0, 0, 0, 0}},
		{crossingGrid, []int{0, 0, 0, 0}},
		{crossingRound, []int{1, 1, 0, 1, 2, 1, 0, 1, 1}},
		{touchingRound, []int{1, 1, 0, 1, 2, 1, 0, 1, 1}},
		{meetingRounds, []int{1, 1, 0, 1, 2, 1, 0, 1, 1}},
		{crossingRounds, []int{1, 1, 1, 0, 1, 1, 2, 1, 1, 2, 1, 1, 0, 1, 1, 1}},
	} {
		for cell, want := range c.want {
			at, ok := impl.RoundAt(c.g, cell)
			wantNumber(t, name("RoundAt", c.g, cell), at, ok, want)
		}
	}
}

// Promise 33: RoundTwice counts the cells with RoundAt 2, and as many of the grid turned.
func TestP33RoundTwice(t *testing.T) {
	some := 0
	everyDrawing(func(g []string, want drawing) {
		twice, ok := impl.RoundTwice(g)
		wantNumber(t, name("RoundTwice", g), twice, ok, want.twice())
		cells := 0
		for cell := range cellsOf(g) {
			if at, ok := impl.RoundAt(g, cell); ok && at == 2 {
				cells++
			}
		}
		wantNumber(t, name("RoundTwice", g), twice, ok, cells)
		turned, ok := impl.RoundTwice(turn(t, g))
		wantNumber(t, name("RoundTwice", turn(t, g)), turned, ok, twice)
		some += twice
	})
	if some == 0 {
		t.Error("rounds go through no cell twice")
	}
}

func TestP33TwiceTold(t *testing.T) {
	for _, c := range []struct {
		g    []string
		want int
	}{
		{[]string{"."}, 0},
		{[]string{"rf", "fr"}, 0},
		{crossingGrid, 0},
		{touchingGrid, 0},
		{crossingRound, 1},
		{touchingRound, 1},
		{meetingRounds, 1},
		{crossingRounds, 2},
		{chainRound, 3},
		{borderRound, 0},
		{gridOfLetters(checkered(5, 5), 5), 9},
	} {
		twice, ok := impl.RoundTwice(c.g)
		wantNumber(t, name("RoundTwice", c.g), twice, ok, c.want)
	}
}

func TestRoundsOfNoGrids(t *testing.T) {
	for _, g := range notGrids() {
		for call, f := range map[string]func([]string) (int, bool){
			"RoundMany":  impl.RoundMany,
			"RoundPaths": impl.RoundPaths,
			"RoundLeast": impl.RoundLeast,
			"RoundTwice": impl.RoundTwice,
		} {
			got, ok := f(g)
			wantNoNumber(t, name(call, g), got, ok)
		}
		lengths, ok := impl.RoundLengths(g)
		wantNoNumbers(t, name("RoundLengths", g), lengths, ok)
		for _, cell := range []int{-1, 0, 1, 4} {
			at, ok := impl.RoundAt(g, cell)
			wantNoNumber(t, name("RoundAt", g, cell), at, ok)
			for d := -1; d <= 4; d++ {
				cells, ok := impl.RoundCells(g, cell, d)
				wantNoNumbers(t, name("RoundCells", g, cell, d), cells, ok)
			}
		}
	}
}

func TestRoundsOfNoCells(t *testing.T) {
	for _, g := range append(mixedSizes(), []string{"rf", "fr"}, crossingRound, gridOfLetters(checkered(5, 5), 5)) {
		for _, cell := range append(someNumbers(), cellsOf(g), cellsOf(g)+1) {
			if cell >= 0 && cell < cellsOf(g) {
				continue
			}
			at, ok := impl.RoundAt(g, cell)
			wantNoNumber(t, name("RoundAt", g, cell), at, ok)
			for d := range 4 {
				cells, ok := impl.RoundCells(g, cell, d)
				wantNoNumbers(t, name("RoundCells", g, cell, d), cells, ok)
			}
		}
	}
}

func TestRoundsOfNoDirections(t *testing.T) {
	for _, g := range [][]string{{"."}, {"rf", "fr"}, crossingRound, meetingRounds, gridOfLetters(checkered(5, 5), 5)} {
		for cell := range cellsOf(g) {
			for _, d := range append(someNumbers(), 7, 8) {
				if d < 0 || d > 3 {
					cells, ok := impl.RoundCells(g, cell, d)
					wantNoNumbers(t, name("RoundCells", g, cell, d), cells, ok)
				}
			}
		}
	}
}

func TestRoundsShareNoMemory(t *testing.T) {
	g, all := wholeMemory([]string{"rfr", "frf"})
	for call, f := range map[string]func() ([]int, bool){
		"RoundLengths": func() ([]int, bool) { return impl.RoundLengths(g) },
		"RoundCells":   func() ([]int, bool) { return impl.RoundCells(g, 0, 0) },
	} {
		wantOwnMemory(t, call, -7, f)
	}
	wantOwnMemory(t, "RoundFull", "spoilt", func() ([]string, bool) { return impl.RoundFull(2, 3) })
	for cell := range cellsOf(g) {
		impl.RoundAt(g, cell)
	}
	impl.RoundMany(g)
	impl.RoundPaths(g)
	impl.RoundLeast(g)
	impl.RoundTwice(g)
	if !slices.Equal(all, []string{"rfr", "frf", "behind", "more"}) {
		t.Errorf("the grid was changed: %q", all)
	}
}
