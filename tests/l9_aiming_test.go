package tests

import (
	"slices"
	"strings"
	"sync"
	"testing"

	"loop.example/mirrorgrids/impl"
)

// call names a call for an aim.
func (a aim) call(call string) string {
	return name(call, a.grid(), a.p, a.q)
}

// try calls AimTry, which must succeed.
func (a aim) try(t *testing.T) int {
	t.Helper()
	cost, ok := impl.AimTry(a.grid(), a.p, a.q)
	must(t, ok, a.call("AimTry"), a.grid())
	return cost
}

// goAlong calls AimGo, which must succeed.
func (a aim) goAlong(t *testing.T) int {
	t.Helper()
	cost, ok := impl.AimGo(a.grid(), a.p, a.q)
	must(t, ok, a.call("AimGo"), a.grid())
	return cost
}

// many calls AimMany, which must succeed.
func (a aim) many(t *testing.T) int {
	t.Helper()
	many, ok := impl.AimMany(a.grid(), a.p, a.q)
	must(t, ok, a.call("AimMany"), a.grid())
	return many
}

// toldAim is a grid and two ports with what is told of aiming: the cost, and for at most madeCells cells the grid that AimGrid returns and the number of grids in which the beam ends there.
type toldAim struct {
	g     string // its rows with / between
	p, q  int
	cost  int
	first string
	many  int
}

// grid returns the grid.
func (c toldAim) grid() []string {
	return strings.Split(c.g, "/")
}

// small reports whether the grid is one of those that are found by trying all.
func (c toldAim) small() bool {
	return cellsOf(c.grid()) <= madeCells
}

// toldAims returns aims with what is told of them.
func toldAims() []toldAim {
	return []toldAim{
		{".", 0, 1, 1, "f", 1},
		{".", 0, 2, 0, ".", 1},
		{"r", 3, 0, 0, "r", 1},
		{"r", 1, 0, 1, "f", 1},
		{"f", 1, 3, 1, ".", 1},
		{"..", 0, 1, 2, "fr", 1},
		{"..", 0, 4, 0, "..", 3},
		{"rf", 2, 5, 2, "..", 1},
		{"rr", 0, 1, 1, "fr", 1},
		{"fr", 3, 4, 2, "rf", 1},
		{".f", 5, 3, 0, ".f", 1},
		{"./.", 1, 2, 2, "r/f", 1},
		{"r/f", 5, 4, 2, "f/r", 1},
		{"r/r", 1, 5, 1, "./r", 3},
		{".....", 0, 4, 2, "f...r", 1},
		{".....", 11, 5, 0, ".....", 1},
		{"rfrfr", 5, 11, 5, ".....", 1},
		{".rrr.", 0, 6, 5, "f...f", 1},
		{"fffff", 0, 4, 4, "f...r", 1},
		{"rrrrr", 1, 3, 2, "rf.rr", 9},
		{"././././.", 0, 6, 0, "././././.", 1},
		{"r/r/r/r/r", 6, 0, 5, "././././.", 1},
		{"f/f/f/f/f", 1, 5, 4, "r/./././f", 1},
		// the beam goes through the first cell twice already
		{"ff/fr", 7, 0, 0, "ff/fr", 29},
		{".f/fr", 0, 7, 0, ".f/fr", 29},
		{"rf/fr", 0, 7, 0, "rf/fr", 29},
		{".f/fr", 0, 3, 1, ".f/f.", 6},
		// several grids have the least cost
		{"rf/fr", 0, 1, 2, "../fr", 10},
		{"rf/fr", 0, 5, 2, ".f/.r", 10},
		{"../..", 1, 0, 2, "fr/..", 10},
		{".f/f.", 1, 5, 3, "rr/..", 6},
		{".../...", 0, 6, 2, "ff./...", 59},
		{".../...", 9, 8, 2, "f../r..", 91},
		{"rrr/rrr", 0, 6, 3, "ffr/r.r", 59},
		{"fff/fff", 5, 9, 1, "fff/f.f", 28},
		{"rfr/frf", 9, 3, 3, "ffr/f.r", 36},
		{".ff/ff.", 2, 7, 4, ".rr/rr.", 28},
		{".r/f./rf", 0, 6, 2, ".r/ff/rr", 36},
		{".../...", 8, 4, 0, ".../...", 36},
		{"r.f/f.r", 0, 9, 0, "r.f/f.r", 263},
		// in the one grid of least cost the beam goes through a cell twice
		{"rf./f..", 2, 6, 1, "rf./f.r", 59},
		{"rf./f..", 5, 6, 1, "rf./f.f", 97},
		{"rfr/f..", 3, 6, 1, "rfr/f.r", 59},
		{"rf/f./..", 3, 4, 1, "rf/f./.f", 97},
		{"rf/.r/..", 4, 8, 1, "rf/.r/f.", 59},
		{g: "rrff/fr..", p: 1, q: 2, cost: 1},
		{g: "rrff/fr..", p: 3, q: 1, cost: 2},
		{g: "rfrf/...r", p: 0, q: 7, cost: 2},
		{g: "rf/f./rf/..", p: 3, q: 5, cost: 2},
		{g: ".r/rr/fr/..", p: 11, q: 3, cost: 1},
		{g: "..f/rf./f..", p: 2, q: 7, cost: 2},
		{g: ".ff/.fr/f..", p: 1, q: 8, cost: 2},
		{g: "frf/.f./...", p: 4, q: 5, cost: 1},
		// grids with more cells than are all tried
		{g: "..../....", p: 0, q: 10, cost: 1},
		{g: "r.rr/....", p: 0, q: 6, cost: 3},
		{g: "../../../..", p: 0, q: 11, cost: 1},
		{g: "ff/.f/rf/..", p: 1, q: 8, cost: 4},
		{g: ".../.../...", p: 0, q: 8, cost: 0},
		{g: ".../.../...", p: 0, q: 6, cost: 2},
		{g: "r.f/.../f.r", p: 1, q: 4, cost: 1},
		{g: "rrr/rrr/rrr", p: 0, q: 8, cost: 3},
		{g: "fff/fff/fff", p: 0, q: 11, cost: 1},
		{g: "rfr/frf/rfr", p: 10, q: 4, cost: 3},
		{g: ".ff/ff./fr.", p: 2, q: 9, cost: 4},
	}
}

// goesTwice reports whether the beam of a port goes through a cell twice in each of some grids.
func goesTwice(grids [][]string, port int) bool {
	return !slices.ContainsFunc(grids, func(g []string) bool { return follow(g, port).twice() == 0 })
}

// kinds tells which kinds that the promises tell apart an aim in a grid of at most madeCells cells is of.
func (a aim) kinds() map[string]bool {
	g, cells := a.grid(), a.sides.n*a.sides.m
	nearest := a.nearest()
	emptied := a.emptied().cost()
	letters := func(g []string) string { return strings.Join(g, "") }
	return map[string]bool{
		"one cell":                       cells == 1,
		"one row":                        a.sides.n == 1 && a.sides.m == impl.SideMax,
		"one column":                     a.sides.m == 1 && a.sides.n == impl.SideMax,
		"most cells":                     cells == madeCells,
		"empty cells alone":              mirrorsOf(g) == 0 && a.cost() > 0,
		"full":                           mirrorsOf(g) == cells && a.cost() > 0,
		"ends there already":             a.cost() == 0 && cells > 1,
		"ends there already, twice":      a.cost() == 0 && follow(g, a.p).twice() > 0,
		"goes elsewhere, twice":          a.cost() > 0 && follow(g, a.p).twice() > 0,
		"ends there by going twice":      a.cost() > 0 && goesTwice(nearest, a.p),
		"all cells change":               a.cost() == cells && cells > 1,
		"one side":                       a.sidesApart() == 0 && a.cost() > 0,
		"two sides that meet":            a.sidesApart() == 1 && a.cost() > 0,
		"sides that face each other":     a.sidesApart() == 2 && a.cost() > 0,
		"several grids cost least":       len(nearest) > 1,
		"a later one has a lesser text":  len(nearest) > 1 && slices.ContainsFunc(nearest, func(other []string) bool { return letters(other) < letters(nearest[0]) }),
		"a later one has fewer mirrors":  len(nearest) > 1 && slices.ContainsFunc(nearest, func(other []string) bool { return mirrorsOf(other) < mirrorsOf(nearest[0]) }),
		"a lesser grid costs more":       a.sides.pairs[0][a.p] == a.q && a.cost() > 0 && mirrorsOf(nearest[0]) > 0,
		"first cell made empty, less":    emptied < a.cost(),
		"first cell made empty, more":    emptied > a.cost(),
		"first cell made empty, as much": emptied == a.cost() && a.number%3 > 0,
	}
}

// The aims of the tests are of all kinds that the promises tell apart.
func TestAimingSamples(t *testing.T) {
	seen := map[string]int{}
	everyTry(func(a aim) {
		for kind, is := range a.kinds() {
			if is {
				seen[kind]++
			}
		}
	})
	for kind := range aimOf([]string{"."}, 0, 1).kinds() {
		if seen[kind] == 0 {
			t.Errorf("no aims are of the kind: %s", kind)
		}
	}
	sides := [][2]int{}
	for _, s := range allAimed() {
		sides = append(sides, [2]int{s.n, s.m})
	}
	if want := [][2]int{{1, 1}, {1, 2}, {1, 3}, {1, 4}, {1, 5}, {2, 1}, {2, 2}, {2, 3}, {2, 4}, {3, 1}, {3, 2}, {3, 3}, {4, 1}, {4, 2}, {5, 1}}; !slices.Equal(sides, want) {
		t.Errorf("beams are aimed for %v", sides)
	}
}

// What the tests find by changing one cell after the other is the least number of cells in which grids with these partners differ.
func TestAimingCosts(t *testing.T) {
	everyTry(func(a aim) {
		least := cellsOf(a.grid())
		for _, number := range a.hits() {
			least = min(least, apart(number, a.number, cellsOf(a.grid())))
		}
		wantNumber(t, a.call("the cost"), a.cost(), true, least)
	})
	for _, c := range toldAims() {
		wantNumber(t, name("the cost", c.grid(), c.p, c.q), aimOf(c.grid(), c.p, c.q).cost(), true, c.cost)
	}
}

// Promise 78: going along the beam tells the same cost as trying all grids, and so does the other port.
func TestP78AimTry(t *testing.T) {
	everyTry(func(a aim) {
		cost := a.try(t)
		wantNumber(t, a.call("AimTry"), cost, true, a.cost())
		wantNumber(t, a.call("AimGo"), a.goAlong(t), true, cost)
		if a.p < a.q {
			wantNumber(t, a.back().call("AimTry"), a.back().try(t), true, cost)
		}
	})
}

func TestP78CostsTold(t *testing.T) {
	for _, c := range toldAims() {
		if !c.small() {
			continue
		}
		for _, a := range []aim{aimOf(c.grid(), c.p, c.q), aimOf(c.grid(), c.q, c.p)} {
			wantNumber(t, a.call("AimTry"), a.try(t), true, c.cost)
			wantNumber(t, a.call("AimGo"), a.goAlong(t), true, c.cost)
		}
	}
}

// Promise 79: the cost is 0 exactly if the beam ends there already, and at most the number of cells.
func TestP79AimGo(t *testing.T) {
	everyAim(func(a aim) {
		cost, ok := impl.AimGo(a.grid(), a.p, a.q)
		if ends := follow(a.grid(), a.p).end == a.q; !ok || cost != a.cost() || (cost == 0) != ends || cost > cellsOf(a.grid()) {
			t.Errorf("%s returned %d, %v instead of %d, and the beam ends there: %v", a.call("AimGo"), cost, ok, a.cost(), ends)
		}
	})
}

func TestP79CostsTold(t *testing.T) {
	for _, c := range toldAims() {
		for _, a := range []aim{aimOf(c.grid(), c.p, c.q), aimOf(c.grid(), c.q, c.p)} {
			cost := a.goAlong(t)
			wantNumber(t, a.call("AimGo"), cost, true, c.cost)
			end := ofBeam(t, "BeamEnd", impl.BeamEnd, a.grid(), a.p)
			if (cost == 0) != (end == a.q) {
				t.Errorf("%s is %d, and the beam ends at %d", a.call("AimGo"), cost, end)
			}
		}
	}
}

// In some of the grids that are told, the beam has to go through a cell twice.
func TestP79TwiceTold(t *testing.T) {
	cells := map[int]int{}
	for _, c := range toldAims() {
		a := aimOf(c.grid(), c.p, c.q)
		if c.cost > 0 && goesTwice(a.nearest(), c.p) {
			cells[cellsOf(c.grid())]++
			wantNumber(t, a.call("AimGo"), a.goAlong(t), true, c.cost)
		}
	}
	for _, many := range []int{6, 8, 9} {
		if cells[many] == 0 {
			t.Errorf("no beam goes through a cell twice in grids of %d cells", many)
		}
	}
}

// Promise 80: in the grid that is told the beam ends there, it costs the least, and no other one of these has a lesser number.
func TestP80AimGrid(t *testing.T) {
	everyTry(func(a aim) {
		call := a.call("AimGrid")
		aimed, ok := impl.AimGrid(a.grid(), a.p, a.q)
		wantGrid(t, call, aimed, ok, a.nearest()[0])
		end := ofBeam(t, "BeamEnd", impl.BeamEnd, aimed, a.p)
		wantNumber(t, call+", BeamEnd", end, true, a.q)
		changed := 0
		for cell := range cellsOf(aimed) {
			if letterAt(aimed, cell) != letterAt(a.grid(), cell) {
				changed++
			}
		}
		wantNumber(t, a.call("AimTry"), a.try(t), true, changed)
	})
}

func TestP80GridsTold(t *testing.T) {
	for _, c := range toldAims() {
		if c.small() {
			for _, a := range []aim{aimOf(c.grid(), c.p, c.q), aimOf(c.grid(), c.q, c.p)} {
				aimed, ok := impl.AimGrid(a.grid(), a.p, a.q)
				wantGrid(t, a.call("AimGrid"), aimed, ok, strings.Split(c.first, "/"))
			}
		}
	}
}

// A grid in which the beam ends there already is returned as it is, although there are such grids with lesser numbers.
func TestP80NothingToChange(t *testing.T) {
	lesser := 0
	everyTry(func(a aim) {
		if a.cost() == 0 {
			aimed, ok := impl.AimGrid(a.grid(), a.p, a.q)
			wantGrid(t, a.call("AimGrid"), aimed, ok, a.grid())
			if a.hits()[0] < a.number {
				lesser++
			}
		}
	})
	if lesser == 0 {
		t.Error("no grid with a lesser number has these partners")
	}
}

// Promise 81: one mirror turns the beam of a row into a column, or that of a column into a row; two lead to another row or another column, or back to the side.
func TestP81AimEmpty(t *testing.T) {
	for _, s := range allAimed() {
		g := emptyGrid(s.n, s.m)
		s.aims(len(s.grids), func(a aim) {
			cost, ok := impl.AimEmpty(s.n, s.m, a.p, a.q)
			call := pairsName("AimEmpty", nil, s.n, s.m, a.p, a.q)
			want := 1
			switch {
			case follow(g, a.p).end == a.q:
				want = 0
			case atRow(g, a.p) == atRow(g, a.q):
				want = 2
			}
			wantNumber(t, call, cost, ok, want)
			wantNumber(t, call, cost, ok, a.cost())
			wantNumber(t, a.call("AimGo"), a.goAlong(t), true, cost)
		})
	}
}

func TestP81EmptyTold(t *testing.T) {
	for _, c := range []struct{ n, m, p, q, want int }{
		{1, 1, 0, 2, 0}, {1, 1, 3, 1, 0}, {1, 1, 0, 1, 1}, {1, 1, 3, 0, 1},
		{1, 2, 0, 1, 2}, {1, 2, 1, 4, 2}, {1, 2, 2, 5, 0}, {2, 1, 0, 3, 0}, {2, 1, 1, 2, 2}, {2, 1, 5, 2, 2},
		{1, 5, 0, 4, 2}, {1, 5, 0, 10, 0}, {1, 5, 0, 6, 2}, {1, 5, 11, 4, 1}, {5, 1, 0, 6, 0}, {5, 1, 1, 5, 2}, {5, 1, 11, 6, 1},
		{2, 3, 0, 7, 0}, {3, 2, 4, 8, 2}, {2, 4, 0, 9, 0}, {2, 4, 4, 5, 2}, {4, 2, 2, 11, 0}, {4, 2, 0, 1, 2},
		{3, 3, 0, 8, 0}, {3, 3, 3, 11, 0}, {3, 3, 0, 11, 1}, {3, 3, 0, 9, 1}, {3, 3, 0, 6, 2}, {3, 3, 9, 11, 2}, {3, 3, 11, 9, 2},
	} {
		cost, ok := impl.AimEmpty(c.n, c.m, c.p, c.q)
		wantNumber(t, pairsName("AimEmpty", nil, c.n, c.m, c.p, c.q), cost, ok, c.want)
	}
}

// everyManySides calls check for all numbers of rows and columns with at most madeCells cells, and some grids of them.
func everyManySides(check func(s *aimedSides, number int)) {
	for _, s := range allAimed() {
		if s.n*s.m <= madeCells {
			for _, number := range []int{0, len(s.grids) / 2, len(s.grids) - 1} {
				check(s, number)
			}
		}
	}
}

// Promise 82: the beam of a port ends at one other port in each grid, and so does the beam of that one.
func TestP82AimMany(t *testing.T) {
	everyManySides(func(s *aimedSides, number int) {
		for p := range s.ports() {
			sum := 0
			for q := range s.ports() {
				if q == p {
					continue
				}
				a := aim{s, number, p, q}
				many := a.many(t)
				wantNumber(t, a.call("AimMany"), many, true, len(a.hits()))
				wantNumber(t, a.back().call("AimMany"), a.back().many(t), true, many)
				sum += many
			}
			wantNumber(t, name("the sum of AimMany", s.grids[number], p), sum, true, len(s.grids))
		}
	})
}

func TestP82ManyTold(t *testing.T) {
	for _, c := range toldAims() {
		if c.small() {
			for _, a := range []aim{aimOf(c.grid(), c.p, c.q), aimOf(c.grid(), c.q, c.p)} {
				wantNumber(t, a.call("AimMany"), a.many(t), true, c.many)
			}
		}
	}
}

// All grids of as many rows and columns are told the same number.
func TestP82AllGrids(t *testing.T) {
	for _, s := range allAimed() {
		if s.n*s.m <= 4 {
			s.aims(1, func(a aim) { wantNumber(t, a.call("AimMany"), a.many(t), true, len(a.hits())) })
		}
	}
}

// Promise 83: a grid with its first cell made empty costs at most 1 more, or 1 less.
func TestP83AimTry(t *testing.T) {
	differences := map[int]int{}
	everyTry(func(a aim) {
		if a.p > a.q {
			return // as the other way round
		}
		emptied, ok := impl.GridPut(a.grid(), 0, ".")
		must(t, ok, "GridPut", a.grid())
		cost, ok := impl.AimTry(emptied, a.p, a.q)
		wantNumber(t, name("AimTry", emptied, a.p, a.q), cost, ok, a.emptied().cost())
		difference := cost - a.try(t)
		if difference < -1 || difference > 1 || difference != 0 && a.number%3 == 0 {
			t.Errorf("%s is %d, with the first cell made empty %d", a.call("AimTry"), cost-difference, cost)
		}
		differences[difference]++
	})
	for difference := -1; difference <= 1; difference++ {
		if differences[difference] == 0 {
			t.Errorf("no difference is %d", difference)
		}
	}
}

func TestP83EmptiedTold(t *testing.T) {
	for _, c := range []struct {
		g             string
		p, q          int
		cost, emptied int
	}{
		{"f", 0, 1, 0, 1}, {"r", 0, 1, 1, 1}, {"f", 0, 2, 1, 0}, {"fr", 0, 1, 0, 1}, {"rfrfr", 5, 11, 5, 4}, {"fffff", 0, 4, 4, 5},
		{"r/f", 5, 4, 2, 2}, {"rf/fr", 0, 7, 0, 0}, {"rf/fr", 0, 1, 2, 1}, {"ff/..", 0, 7, 1, 1}, {".f/f.", 1, 5, 3, 3},
	} {
		a := aimOf(strings.Split(c.g, "/"), c.p, c.q)
		wantNumber(t, a.call("AimTry"), a.try(t), true, c.cost)
		wantNumber(t, a.emptied().call("AimTry"), a.emptied().try(t), true, c.emptied)
	}
}

// What aiming costs is the same for a grid turned, with its ports.
func TestAimingTurned(t *testing.T) {
	everyAim(func(a aim) {
		if a.number%10 != 0 {
			return
		}
		turned := turn(t, a.grid())
		cost, ok := impl.AimGo(turned, a.sides.turnedPort(a.p), a.sides.turnedPort(a.q))
		wantNumber(t, a.call("turned, AimGo"), cost, ok, a.goAlong(t))
	})
}

// wantNoAim checks that each function fails for a list and two numbers: those that try all grids, and AimGo if this is told.
func wantNoAim(t *testing.T, g []string, p, q int, along bool) {
	t.Helper()
	cost, ok := impl.AimTry(g, p, q)
	wantNoNumber(t, name("AimTry", g, p, q), cost, ok)
	aimed, ok := impl.AimGrid(g, p, q)
	wantNoGrid(t, name("AimGrid", g, p, q), aimed, ok)
	many, ok := impl.AimMany(g, p, q)
	wantNoNumber(t, name("AimMany", g, p, q), many, ok)
	if along {
		cost, ok := impl.AimGo(g, p, q)
		wantNoNumber(t, name("AimGo", g, p, q), cost, ok)
	}
}

func wantNoEmpty(t *testing.T, n, m, p, q int) {
	t.Helper()
	cost, ok := impl.AimEmpty(n, m, p, q)
	wantNoNumber(t, pairsName("AimEmpty", nil, n, m, p, q), cost, ok)
}

func TestAimingOfNoGrids(t *testing.T) {
	for _, g := range notGrids() {
		for _, ports := range [][2]int{{0, 1}, {1, 0}, {0, 0}, {0, 2}, {3, 2}, {-1, 0}, {0, -1}, {4, 20}} {
			wantNoAim(t, g, ports[0], ports[1], true)
		}
	}
}

// noPorts returns numbers that are none of so many ports.
func noPorts(ports int) []int {
	numbers := append(someNumbers(), ports, ports+1, 2*ports, 1<<32, 1<<32+1, -1<<32+1)
	return slices.DeleteFunc(numbers, func(number int) bool { return 0 <= number && number < ports })
}

func TestAimingOfNoPorts(t *testing.T) {
	for _, s := range allAimed() {
		for _, g := range [][]string{s.grids[0], s.grids[len(s.grids)/3], s.grids[len(s.grids)-1]} {
			for _, number := range noPorts(s.ports()) {
				for _, port := range []int{0, 1, s.ports() - 1} {
					wantNoAim(t, g, number, port, true)
					wantNoAim(t, g, port, number, true)
					wantNoEmpty(t, s.n, s.m, number, port)
					wantNoEmpty(t, s.n, s.m, port, number)
				}
				wantNoAim(t, g, number, number, true)
				wantNoAim(t, g, number, -1, true)
				wantNoEmpty(t, s.n, s.m, number, number)
			}
		}
	}
}

func TestAimingOfOnePort(t *testing.T) {
	for _, s := range allAimed() {
		for port := range s.ports() {
			for _, g := range [][]string{s.grids[0], s.grids[len(s.grids)/2], s.grids[len(s.grids)-1]} {
				wantNoAim(t, g, port, port, true)
			}
			wantNoEmpty(t, s.n, s.m, port, port)
		}
	}
}

func TestAimingOfMoreCells(t *testing.T) {
	for _, sides := range sidesWithMore(madeCells) {
		n, m := sides[0], sides[1]
		for _, g := range mixedGrids(n, m, 6) {
			for port := 1; port < portsOf(g); port++ {
				wantNoAim(t, g, 0, port, n*m > aimedCells)
				wantNoAim(t, g, port, port-1, n*m > aimedCells)
			}
		}
		for port := 1; port < 2*n+2*m; port++ {
			if n*m > aimedCells {
				wantNoEmpty(t, n, m, 0, port)
				wantNoEmpty(t, n, m, port, port-1)
			}
		}
	}
}

// Just at the limits of cells, all functions succeed that are told to.
func TestAimingOfMostCells(t *testing.T) {
	for _, g := range [][]string{{"...", "..."}, {"rf", "fr", "rf"}} {
		wantNumber(t, name("AimTry", g, 0, 1), aimOf(g, 0, 1).try(t), true, aimOf(g, 0, 1).cost())
		aimed, ok := impl.AimGrid(g, 0, 1)
		wantGrid(t, name("AimGrid", g, 0, 1), aimed, ok, aimOf(g, 0, 1).nearest()[0])
		wantNumber(t, name("AimMany", g, 0, 1), aimOf(g, 0, 1).many(t), true, len(aimOf(g, 0, 1).hits()))
	}
	for _, sides := range [][2]int{{2, 4}, {4, 2}, {3, 3}} {
		cost, ok := impl.AimEmpty(sides[0], sides[1], 0, 1)
		wantNumber(t, pairsName("AimEmpty", nil, sides[0], sides[1], 0, 1), cost, ok, 2)
		cost, ok = impl.AimGo(emptyGrid(sides[0], sides[1]), 0, 1)
		wantNumber(t, name("AimGo", emptyGrid(sides[0], sides[1]), 0, 1), cost, ok, 2)
	}
}

func TestAimingOfNoSides(t *testing.T) {
	// Some of these have as many ports or cells as grids that are aimed in.
	others := [][2]int{{1, 6}, {6, 1}, {1, 9}, {9, 1}, {0, 4}, {4, 0}, {-1, 3}, {3, -1}, {-1, -9}, {-3, -3}, {-2, -2}, {7, -5}, {1 << 32, 1 << 32}, {1<<32 + 1, 1}, {1 << 63 / 2, 4}}
	for _, sides := range append(sidesFor(), others...) {
		for _, ports := range [][2]int{{0, 1}, {1, 0}, {0, 2}, {3, 1}, {-1, 0}, {-1, -2}, {11, 4}} {
			wantNoEmpty(t, sides[0], sides[1], ports[0], ports[1])
		}
	}
}

func TestAimingSharesNoMemory(t *testing.T) {
	for _, c := range toldAims() {
		g, all := wholeMemory(c.grid())
		if c.small() {
			wantOwnMemory(t, name("AimGrid", g, c.p, c.q), "spoilt", func() ([]string, bool) { return impl.AimGrid(g, c.p, c.q) })
		}
		impl.AimTry(g, c.p, c.q)
		impl.AimGo(g, c.p, c.q)
		impl.AimMany(g, c.p, c.q)
		if !slices.Equal(all, append(c.grid(), "behind", "more")) {
			t.Errorf("the grid was changed: %q", all)
		}
	}
}

// A grid in which there is nothing to change is returned in memory of its own.
func TestAimGridIsNew(t *testing.T) {
	for _, c := range toldAims() {
		if c.small() && c.cost == 0 {
			g := c.grid()
			aimed, ok := impl.AimGrid(g, c.p, c.q)
			must(t, ok, "AimGrid", g)
			aimed[0] = "spoilt"
			if !slices.Equal(g, c.grid()) {
				t.Errorf("%s is the grid itself", name("AimGrid", c.grid(), c.p, c.q))
			}
		}
	}
}

// Calls at the same time return the same.
func TestAimingAtOnce(t *testing.T) {
	var calls sync.WaitGroup
	for range 8 {
		calls.Go(func() {
			for _, c := range toldAims() {
				cost, ok := impl.AimGo(c.grid(), c.p, c.q)
				wantNumber(t, name("AimGo", c.grid(), c.p, c.q), cost, ok, c.cost)
				if c.small() {
					cost, ok := impl.AimTry(c.grid(), c.p, c.q)
					wantNumber(t, name("AimTry", c.grid(), c.p, c.q), cost, ok, c.cost)
					aimed, ok := impl.AimGrid(c.grid(), c.p, c.q)
					wantGrid(t, name("AimGrid", c.grid(), c.p, c.q), aimed, ok, strings.Split(c.first, "/"))
				}
			}
		})
	}
	calls.Wait()
}
