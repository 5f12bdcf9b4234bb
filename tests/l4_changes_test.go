package tests

import (
	"slices"
	"strings"
	"testing"

	"loop.example/mirrorgrids/impl"
)

// everyChange calls check for each of changeGrids with what the tests find of its changes.
func everyChange(check func(c changedCells)) {
	for _, c := range allChanges() {
		check(c)
	}
}

// everyCell calls check for each cell of each of changeGrids.
func everyCell(check func(c changedCells, cell int)) {
	everyChange(func(c changedCells) {
		for cell := range c.three {
			check(c, cell)
		}
	})
}

// wantAtMostOne checks that a difference is 1, 0 or -1.
func wantAtMostOne(t *testing.T, what string, difference int) {
	t.Helper()
	if difference < -1 || difference > 1 {
		t.Errorf("%s is %d", what, difference)
	}
}

// The grids of the tests have what the promises tell apart.
func TestChangeGrids(t *testing.T) {
	seen := map[string]int{}
	everyChange(func(c changedCells) {
		mirrors := strings.Trim(strings.Join(c.g, ""), ".") != ""
		cells, most := c.best()
		for kind, is := range map[string]bool{
			"no mirrors":           !mirrors,
			"full":                 !strings.Contains(strings.Join(c.g, ""), "."),
			"one cell":             len(c.g) == 1 && len(c.g[0]) == 1,
			"one row":              len(c.g) == 1 && len(c.g[0]) > 1,
			"one column":           len(c.g) > 1 && len(c.g[0]) == 1,
			"greatest":             len(c.g) == impl.SideMax && len(c.g[0]) == impl.SideMax,
			"best in a tie":        len(cells) > 1 && most > c.paths,
			"best makes them less": mirrors && most < c.paths,
			"best changes nothing": most == c.paths,
			"several climbs":       len(climb(c.g)) > 3,
			"best not the first":   mirrors && most > c.paths && cells[0] > strings.IndexAny(strings.Join(c.g, ""), "rf"),
		} {
			if is {
				seen[kind]++
			}
		}
	})
	everyCell(func(c changedCells, cell int) {
		kind := map[bool]string{false: "empty ", true: "mirror "}[c.mirror(cell)]
		kind += map[bool]string{false: "of two paths", true: "of one path"}[c.self[cell]]
		seen[kind]++
	})
	for _, kind := range []string{"no mirrors", "full", "one cell", "one row", "one column", "greatest", "best in a tie", "best makes them less", "best changes nothing", "several climbs", "best not the first", "empty of two paths", "empty of one path", "mirror of two paths", "mirror of one path"} {
		if seen[kind] == 0 {
			t.Errorf("no grid or cell is of the kind: %s", kind)
		}
	}
}

// Promise 34: exchanging a mirror changes the number of paths by 1 at most, and exchanging it again undoes that.
func TestP34ChangeDelta(t *testing.T) {
	everyCell(func(c changedCells, cell int) {
		delta, ok := impl.ChangeDelta(c.g, cell)
		if !c.mirror(cell) {
			wantNoNumber(t, name("ChangeDelta", c.g, cell), delta, ok)
			return
		}
		wantNumber(t, name("ChangeDelta", c.g, cell), delta, ok, c.exchanged(cell)-c.paths)
		wantAtMostOne(t, name("ChangeDelta", c.g, cell), delta)
		exchanged := withLetter(c.g, cell, exchange(letterAt(c.g, cell)))
		back, ok := impl.ChangeDelta(exchanged, cell)
		wantNumber(t, name("ChangeDelta", exchanged, cell), back, ok, -delta)
	})
}

func TestP34DeltasTold(t *testing.T) {
	for _, c := range []struct {
		g          []string
		cell, want int
	}{
		{[]string{"r"}, 0, 0},
		{[]string{"f"}, 0, 0},
		{[]string{"..f.."}, 2, 0},
		{[]string{".", "r"}, 1, 0},
		{[]string{"rf", "fr"}, 0, -1},
		{[]string{"rf", "fr"}, 3, -1},
		{touchingGrid, 0, 1},
		{crossingGrid, 1, 0},
		{touchingRound, 4, 1},
		{meetingRounds, 4, -1},
		{[]string{".rf", ".r.", ".fr"}, 4, 0},
		{[]string{".rf", ".f.", ".fr"}, 4, 0},
		{[]string{"...", ".r.", "..."}, 4, 0},
		{borderRound, 24, -1},
		{gridOfLetters(checkered(5, 5), 5), 12, -1},
		{gridOfLetters(strings.Repeat("r", 25), 5), 12, 0},
	} {
		delta, ok := impl.ChangeDelta(c.g, c.cell)
		wantNumber(t, name("ChangeDelta", c.g, c.cell), delta, ok, c.want)
	}
}

// Promise 35: making a mirror empty changes the number of paths by 1 at most, and the grid with the cell empty has as many.
func TestP35ChangeEmpty(t *testing.T) {
	everyCell(func(c changedCells, cell int) {
		delta, ok := impl.ChangeEmpty(c.g, cell)
		if !c.mirror(cell) {
			wantNoNumber(t, name("ChangeEmpty", c.g, cell), delta, ok)
			return
		}
		wantNumber(t, name("ChangeEmpty", c.g, cell), delta, ok, c.with(cell, '.')-c.paths)
		wantAtMostOne(t, name("ChangeEmpty", c.g, cell), delta)
		empty, ok := impl.GridPut(c.g, cell, ".")
		must(t, ok, "GridPut", c.g)
		paths := ofGrid(t, "RoundPaths", impl.RoundPaths, c.g)
		wantNumber(t, name("RoundPaths", empty), ofGrid(t, "RoundPaths", impl.RoundPaths, empty), true, paths+delta)
	})
}

func TestP35EmptiesTold(t *testing.T) {
	for _, c := range []struct {
		g          []string
		cell, want int
	}{
		{[]string{"r"}, 0, 0},
		{[]string{"....f"}, 4, 0},
		{[]string{"rf", "fr"}, 1, -1},
		{touchingGrid, 0, 0},
		{[]string{".rf", ".r.", ".fr"}, 4, 1},
		{[]string{".rf", ".f.", ".fr"}, 4, 1},
		{touchingRound, 4, 0},
		{meetingRounds, 4, -1},
	} {
		delta, ok := impl.ChangeEmpty(c.g, c.cell)
		wantNumber(t, name("ChangeEmpty", c.g, c.cell), delta, ok, c.want)
	}
}

// Promises 34, 35 and 40: cells that are empty already have no mirror to exchange or to make empty.
func TestP34P35P40EmptyCells(t *testing.T) {
	for _, c := range []struct {
		g    []string
		cell int
	}{
		{[]string{"."}, 0},
		{[]string{".r"}, 0},
		{[]string{"r."}, 1},
		{[]string{"f", "."}, 1},
		{crossingGrid, 0},
		{crossingRound, 4},
		{throughMiddle, 4},
		{borderRound, 12},
		{gridOfLetters(strings.Repeat(".", 25), 5), 24},
	} {
		for call, f := range map[string]func([]string, int) (int, bool){
			"ChangeDelta": impl.ChangeDelta,
			"ChangeEmpty": impl.ChangeEmpty,
			"ChangePairs": impl.ChangePairs,
		} {
			got, ok := f(c.g, c.cell)
			wantNoNumber(t, name(call, c.g, c.cell), got, ok)
		}
	}
}

// Promise 36: exchanging a mirror that one path meets twice makes paths no fewer, and turning keeps what path goes where.
func TestP36ChangeSelf(t *testing.T) {
	everyCell(func(c changedCells, cell int) {
		self := impl.ChangeSelf(c.g, cell)
		if self != c.self[cell] {
			t.Errorf("%s is %v", name("ChangeSelf", c.g, cell), self)
		}
		if delta, ok := impl.ChangeDelta(c.g, cell); self && (ok != c.mirror(cell) || delta < 0) {
			t.Errorf("%s holds, but ChangeDelta is %d, %v", name("ChangeSelf", c.g, cell), delta, ok)
		}
		turned, there := turn(t, c.g), turnedCell(c.g, cell)
		if letterAt(turned, there) != exchange(letterAt(c.g, cell)) {
			t.Errorf("the cell %d does not come to %d when %q is turned", cell, there, c.g)
		}
		if impl.ChangeSelf(turned, there) != self {
			t.Errorf("%s is %v, but not %s", name("ChangeSelf", c.g, cell), self, name("ChangeSelf", turned, there))
		}
	})
}

func TestP36SelvesTold(t *testing.T) {
	for _, c := range []struct {
		g     []string
		cells []int // those that hold
	}{
		{[]string{"."}, nil},
		{[]string{"r"}, nil},
		{[]string{".rf.r"}, nil},
		{[]string{"rf", "fr"}, nil},
		{crossingGrid, []int{0}},
		{touchingGrid, []int{0}},
		{[]string{"rf", "f."}, []int{3}},
		{crossingRound, []int{4}},
		{touchingRound, []int{4}},
		{meetingRounds, nil},
		{crossingRounds, nil},
		{chainRound, []int{6, 12, 18}},
		{borderRound, nil},
		{throughMiddle, nil},
		{[]string{".rf", ".r.", ".fr"}, []int{4, 5}},
	} {
		for cell := range cellsOf(c.g) {
			if got := impl.ChangeSelf(c.g, cell); got != slices.Contains(c.cells, cell) {
				t.Errorf("%s is %v", name("ChangeSelf", c.g, cell), got)
			}
		}
	}
}

// Promise 37: of the numbers of paths with a cell empty, with r and with f, all are the same, or one is 1 more than the others.
func TestP37ChangePaths(t *testing.T) {
	more := [3]int{}
	everyCell(func(c changedCells, cell int) {
		paths, ok := impl.ChangePaths(c.g, cell)
		wantNumbers(t, name("ChangePaths", c.g, cell), paths, ok, c.three[cell][:]...)
		least := slices.Min(paths)
		if sum(paths) > 3*least+1 {
			t.Errorf("%s is %v", name("ChangePaths", c.g, cell), paths)
		}
		for at := range more {
			more[at] += paths[at] - least
		}
	})
	if slices.Contains(more[:], 0) {
		t.Errorf("the cells with more paths, by letters, are %v", more)
	}
}

func TestP37PathsTold(t *testing.T) {
	for _, c := range []struct {
		g    []string
		cell int
		want []int
	}{
		{[]string{"."}, 0, []int{2, 2, 2}},
		{[]string{"r"}, 0, []int{2, 2, 2}},
		{[]string{"f"}, 0, []int{2, 2, 2}},
		{[]string{"....."}, 4, []int{6, 6, 6}},
		{[]string{"rf", "fr"}, 0, []int{4, 5, 4}},
		{[]string{"rf", "fr"}, 1, []int{4, 4, 5}},
		{crossingGrid, 0, []int{4, 5, 4}},
		{[]string{"r.", "fr"}, 1, []int{4, 4, 5}},
		{throughMiddle, 4, []int{7, 6, 6}},
		{crossingRound, 4, []int{7, 8, 7}},
		{meetingRounds, 4, []int{7, 8, 7}},
		{[]string{".rf", "r.r", "fr."}, 4, []int{7, 7, 8}},
		{[]string{"...", "...", "..."}, 4, []int{6, 6, 6}},
	} {
		paths, ok := impl.ChangePaths(c.g, c.cell)
		wantNumbers(t, name("ChangePaths", c.g, c.cell), paths, ok, c.want...)
	}
}

// Promise 38: no cell makes more paths than the best one, none of a lesser number as many, and the number is of the grid and its delta.
func TestP38ChangeBest(t *testing.T) {
	everyChange(func(c changedCells) {
		best, most, ok := impl.ChangeBest(c.g)
		cells, want := c.best()
		if len(cells) == 0 {
			wantNoNumber(t, name("ChangeBest", c.g), best, ok)
			wantNoNumber(t, name("the number of ChangeBest", c.g), most, ok)
			return
		}
		wantNumber(t, name("ChangeBest", c.g), best, ok, cells[0])
		wantNumber(t, name("the number of ChangeBest", c.g), most, ok, want)
		paths := ofGrid(t, "RoundPaths", impl.RoundPaths, c.g)
		for cell := range c.three {
			delta, ok := impl.ChangeDelta(c.g, cell)
			if ok && paths+delta > most || cell == best && (!ok || paths+delta != most) {
				t.Errorf("%s is %d, %d of %d paths, but ChangeDelta of %d is %d, %v", name("ChangeBest", c.g), best, most, paths, cell, delta, ok)
			}
		}
	})
}

func TestP38BestTold(t *testing.T) {
	for _, c := range []struct {
		g          []string
		cell, most int
	}{
		{[]string{"r"}, 0, 2},
		{[]string{"f"}, 0, 2},
		{[]string{"..f.r"}, 2, 6},
		{[]string{".", "f", "f"}, 1, 4},
		{[]string{"rf", "fr"}, 0, 4},
		{[]string{".rf", ".fr"}, 1, 5},
		{[]string{"...", ".rf", ".fr"}, 4, 6},
		{[]string{"rfr", "fr."}, 2, 6},
		{touchingGrid, 0, 5},
		{[]string{"rf", "ff"}, 3, 5},
		{touchingRound, 4, 8},
		{meetingRounds, 0, 7},
		{borderRound, 0, 10},
		{gridOfLetters(checkered(5, 5), 5), 4, 18},
		{gridOfLetters(checkered(4, 5), 5), 4, 15},
		{[]string{"rf...", "ff...", ".....", "...rf", "...ff"}, 6, 11},
	} {
		cell, most, ok := impl.ChangeBest(c.g)
		wantNumber(t, name("ChangeBest", c.g), cell, ok, c.cell)
		wantNumber(t, name("the number of ChangeBest", c.g), most, ok, c.most)
	}
}

func TestP38WithoutMirrors(t *testing.T) {
	for n := 1; n <= impl.SideMax; n++ {
		for m := 1; m <= impl.SideMax; m++ {
			g := gridOfLetters(strings.Repeat(".", n*m), m)
			cell, most, ok := impl.ChangeBest(g)
			wantNoNumber(t, name("ChangeBest", g), cell, ok)
			wantNoNumber(t, name("the number of ChangeBest", g), most, ok)
		}
	}
}

// Promise 39: climbing makes paths no fewer, ends where no exchange makes more, and changes nothing then.
func TestP39ChangeClimb(t *testing.T) {
	everyChange(func(c changedCells) {
		climbed, ok := impl.ChangeClimb(c.g)
		way := climb(c.g)
		wantGrid(t, name("ChangeClimb", c.g), climbed, ok, way[len(way)-1])
		if paths := ofGrid(t, "RoundPaths", impl.RoundPaths, climbed); paths < c.paths {
			t.Errorf("%s has %d paths instead of %d", name("ChangeClimb", c.g), paths, c.paths)
		}
		for cell := range c.three {
			if delta, ok := impl.ChangeDelta(climbed, cell); ok && delta > 0 {
				t.Errorf("%s is %q, but ChangeDelta of %d is %d", name("ChangeClimb", c.g), climbed, cell, delta)
			}
			if (letterAt(climbed, cell) == '.') == c.mirror(cell) {
				t.Errorf("%s is %q", name("ChangeClimb", c.g), climbed)
			}
		}
		again, ok := impl.ChangeClimb(climbed)
		wantGrid(t, name("ChangeClimb", climbed), again, ok, climbed)
	})
}

func TestP39ClimbsTold(t *testing.T) {
	for _, c := range []struct{ g, want []string }{
		{[]string{"."}, []string{"."}},
		{[]string{"r"}, []string{"r"}},
		{[]string{"f"}, []string{"f"}},
		{[]string{".....", "....."}, []string{".....", "....."}},
		{[]string{"rf", "fr"}, []string{"rf", "fr"}},
		{touchingGrid, []string{"rf", "fr"}},
		{crossingGrid, crossingGrid},
		{throughMiddle, throughMiddle},
		{touchingRound, meetingRounds},
		{meetingRounds, meetingRounds},
		{[]string{"rf...", "ff...", ".....", "...rf", "...ff"}, []string{"rf...", "fr...", ".....", "...rf", "...fr"}},
		{gridOfLetters(checkered(5, 5), 5), gridOfLetters(checkered(5, 5), 5)},
		{gridOfLetters(strings.Repeat("r", 25), 5), gridOfLetters(strings.Repeat("r", 25), 5)},
		{gridOfLetters(strings.Repeat(".", 25), 5), gridOfLetters(strings.Repeat(".", 25), 5)},
	} {
		climbed, ok := impl.ChangeClimb(c.g)
		wantGrid(t, name("ChangeClimb", c.g), climbed, ok, c.want)
	}
}

// Promise 40: 4 ports have other partners, or none, and if they have, there are as many paths.
func TestP40ChangePairs(t *testing.T) {
	four, none := 0, 0
	everyCell(func(c changedCells, cell int) {
		moved, ok := impl.ChangePairs(c.g, cell)
		if !c.mirror(cell) {
			wantNoNumber(t, name("ChangePairs", c.g, cell), moved, ok)
			return
		}
		wantNumber(t, name("ChangePairs", c.g, cell), moved, ok, movedPorts(c.g, cell))
		delta, ok := impl.ChangeDelta(c.g, cell)
		switch {
		case moved == 4 && ok && delta == 0:
			four++
		case moved == 0 && ok:
			none++
		default:
			t.Errorf("%s is %d, and ChangeDelta is %d, %v", name("ChangePairs", c.g, cell), moved, delta, ok)
		}
	})
	if four == 0 || none == 0 {
		t.Errorf("%d cells move 4 ports, and %d none", four, none)
	}
}

func TestP40PairsTold(t *testing.T) {
	for _, c := range []struct {
		g          []string
		cell, want int
	}{
		{[]string{"r"}, 0, 4},
		{[]string{"f"}, 0, 4},
		{[]string{"..r.."}, 2, 4},
		{[]string{"r", "f"}, 1, 4},
		{[]string{"rf", "fr"}, 0, 0},
		{touchingGrid, 0, 0},
		{crossingGrid, 3, 4},
		{[]string{".rf", ".r.", ".fr"}, 4, 0},
		{meetingRounds, 4, 0},
		{borderRound, 0, 0},
		{gridOfLetters(strings.Repeat("r", 25), 5), 12, 4},
	} {
		moved, ok := impl.ChangePairs(c.g, c.cell)
		wantNumber(t, name("ChangePairs", c.g, c.cell), moved, ok, c.want)
	}
}

// wantNoChanges checks that each function of a cell fails for a list and a number.
func wantNoChanges(t *testing.T, g []string, cell int) {
	t.Helper()
	for call, f := range map[string]func([]string, int) (int, bool){
		"ChangeDelta": impl.ChangeDelta,
		"ChangeEmpty": impl.ChangeEmpty,
		"ChangePairs": impl.ChangePairs,
	} {
		got, ok := f(g, cell)
		wantNoNumber(t, name(call, g, cell), got, ok)
	}
	paths, ok := impl.ChangePaths(g, cell)
	wantNoNumbers(t, name("ChangePaths", g, cell), paths, ok)
	if impl.ChangeSelf(g, cell) {
		t.Errorf("%s holds", name("ChangeSelf", g, cell))
	}
}

func TestChangesOfNoGrids(t *testing.T) {
	for _, g := range notGrids() {
		for _, cell := range []int{-1, 0, 1, 4, 24} {
			wantNoChanges(t, g, cell)
		}
		best, most, ok := impl.ChangeBest(g)
		wantNoNumber(t, name("ChangeBest", g), best, ok)
		wantNoNumber(t, name("the number of ChangeBest", g), most, ok)
		climbed, ok := impl.ChangeClimb(g)
		wantNoGrid(t, name("ChangeClimb", g), climbed, ok)
	}
}

func TestChangesOfNoCells(t *testing.T) {
	for _, g := range append(mixedSizes(), []string{"r"}, []string{"."}, touchingGrid, touchingRound, chainRound, gridOfLetters(checkered(5, 5), 5)) {
		for _, cell := range append(someNumbers(), cellsOf(g), cellsOf(g)+1) {
			if cell < 0 || cell >= cellsOf(g) {
				wantNoChanges(t, g, cell)
			}
		}
	}
}

func TestChangesShareNoMemory(t *testing.T) {
	g, all := wholeMemory([]string{"ff", "fr"})
	wantOwnMemory(t, "ChangePaths", -7, func() ([]int, bool) { return impl.ChangePaths(g, 0) })
	wantOwnMemory(t, "ChangeClimb", "spoilt", func() ([]string, bool) { return impl.ChangeClimb(g) })
	still, rest := wholeMemory([]string{"rf", "fr"})
	wantOwnMemory(t, "ChangeClimb without an exchange", "spoilt", func() ([]string, bool) { return impl.ChangeClimb(still) })
	for cell := range cellsOf(g) {
		impl.ChangeDelta(g, cell)
		impl.ChangeEmpty(g, cell)
		impl.ChangeSelf(g, cell)
		impl.ChangePairs(g, cell)
	}
	impl.ChangeBest(g)
	if !slices.Equal(all, []string{"ff", "fr", "behind", "more"}) || !slices.Equal(rest, []string{"rf", "fr", "behind", "more"}) {
		t.Errorf("the grids were changed: %q, %q", all, rest)
	}
}
