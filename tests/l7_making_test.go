package tests

import (
	"runtime"
	"slices"
	"sync"
	"testing"
	"time"

	"loop.example/mirrorgrids/impl"
)

// countMade calls MakeAll or MakeFull, which must succeed.
func countMade(t *testing.T, call string, f func(n int, m int) (int, bool), n, m int) int {
	t.Helper()
	number, ok := f(n, m)
	if !ok {
		t.Fatalf("%s fails", pairsName(call, nil, n, m))
	}
	return number
}

// turnSides calls JoinTurn, which must succeed.
func turnSides(t *testing.T, p ofSides) ofSides {
	t.Helper()
	turned, ok := impl.JoinTurn(p.n, p.m, p.pairs)
	if !ok {
		t.Fatalf("%s fails", sidesName("JoinTurn", p))
	}
	return ofSides{p.m, p.n, turned}
}

// The pairings of the tests have what the promises tell apart.
func TestMakingSamples(t *testing.T) {
	seen := map[string]int{}
	everyMaking(func(p ofSides, grids [][]string) {
		made := len(grids) > 0
		for kind, is := range map[string]bool{
			"one cell":                     p.n == 1 && p.m == 1,
			"one row":                      p.n == 1 && p.m == impl.SideMax,
			"one column":                   p.n == impl.SideMax && p.m == 1,
			"most cells":                   p.n*p.m == madeCells,
			"no grid":                      !made,
			"no grid, no pairs cross":      !made && chordsOf(p.pairs) == 0,
			"one grid":                     len(grids) == 1,
			"many grids":                   len(grids) > 20,
			"empty grid":                   made && fewestOf(grids) == 0,
			"full grids alone":             made && fewestOf(grids) == p.n*p.m,
			"fewest not in the first grid": made && fewestOf(grids) < mirrorsOf(grids[0]),
			"a later grid begins with .":   made && grids[0][0][0] != '.' && slices.ContainsFunc(grids, func(g []string) bool { return g[0][0] == '.' }),
			"no grid of exchanged sides":   made && len(triedOf(p.m, p.n).grids(p.pairs)) == 0,
		} {
			if is {
				seen[kind]++
			}
		}
	})
	for _, kind := range []string{"one cell", "one row", "one column", "most cells", "no grid", "no grid, no pairs cross", "one grid", "many grids", "empty grid", "full grids alone", "fewest not in the first grid", "a later grid begins with .", "no grid of exchanged sides"} {
		if seen[kind] == 0 {
			t.Errorf("no pairing is of the kind: %s", kind)
		}
	}
	sides := [][2]int{}
	for _, tried := range allTried() {
		sides = append(sides, [2]int{tried.n, tried.m})
	}
	if want := [][2]int{{1, 1}, {1, 2}, {1, 3}, {1, 4}, {1, 5}, {2, 1}, {2, 2}, {2, 3}, {3, 1}, {3, 2}, {4, 1}, {5, 1}}; !slices.Equal(sides, want) {
		t.Errorf("all grids are tried for %v", sides)
	}
}

// Promise 63: there are as many pairings of grids with rows and columns exchanged, no fewer than of full grids, and no more than grids.
func TestP63MakeAll(t *testing.T) {
	for _, tried := range allTried() {
		n, m := tried.n, tried.m
		call := pairsName("MakeAll", nil, n, m)
		all := countMade(t, "MakeAll", impl.MakeAll, n, m)
		wantNumber(t, call, all, true, len(tried.lists))
		wantNumber(t, call+", exchanged,", countMade(t, "MakeAll", impl.MakeAll, m, n), true, all)
		if full := countMade(t, "MakeFull", impl.MakeFull, n, m); all < full {
			t.Errorf("%s is %d, and MakeFull %d", call, all, full)
		}
		if grids := len(allGrids(n, m)); all > grids {
			t.Errorf("%s is %d, of %d grids", call, all, grids)
		}
	}
}

func TestP63AllTold(t *testing.T) {
	for _, c := range []struct{ n, m, want int }{
		{1, 1, 3}, {1, 2, 9}, {1, 3, 27}, {1, 4, 81}, {1, 5, 243}, {2, 2, 61}, {2, 3, 373},
		{2, 1, 9}, {3, 1, 27}, {4, 1, 81}, {5, 1, 243}, {3, 2, 373},
	} {
		all, ok := impl.MakeAll(c.n, c.m)
		wantNumber(t, pairsName("MakeAll", nil, c.n, c.m), all, ok, c.want)
	}
}

// Promise 64: full grids have pairings without pairs that cross, and as many with rows and columns exchanged.
func TestP64MakeFull(t *testing.T) {
	for _, tried := range allTried() {
		n, m := tried.n, tried.m
		call := pairsName("MakeFull", nil, n, m)
		full := countMade(t, "MakeFull", impl.MakeFull, n, m)
		wantNumber(t, call, full, true, tried.full())
		wantNumber(t, call+", exchanged,", countMade(t, "MakeFull", impl.MakeFull, m, n), true, full)
		plain, ok := impl.MakePlain(n + m)
		if !ok || full > plain {
			t.Errorf("%s is %d, and MakePlain %d, %v", call, full, plain, ok)
		}
	}
}

func TestP64FullTold(t *testing.T) {
	for _, c := range []struct{ n, m, want int }{
		{1, 1, 2}, {1, 2, 4}, {1, 3, 8}, {1, 4, 16}, {1, 5, 32}, {2, 2, 12}, {2, 3, 33},
		{2, 1, 4}, {3, 1, 8}, {4, 1, 16}, {5, 1, 32}, {3, 2, 33},
	} {
		full, ok := impl.MakeFull(c.n, c.m)
		wantNumber(t, pairsName("MakeFull", nil, c.n, c.m), full, ok, c.want)
	}
}

// Promise 65: as many grids have a pairing turned, and none exactly if there is no first one.
func TestP65MakeMany(t *testing.T) {
	everyMaking(func(p ofSides, grids [][]string) {
		many, ok := impl.MakeMany(p.n, p.m, p.pairs)
		wantNumber(t, sidesName("MakeMany", p), many, ok, len(grids))
		turned := turnSides(t, p)
		turnedMany, ok := impl.MakeMany(turned.n, turned.m, turned.pairs)
		wantNumber(t, sidesName("turned, MakeMany", p), turnedMany, ok, many)
		if _, first := impl.MakeFirst(p.n, p.m, p.pairs); first != (many > 0) {
			t.Errorf("%s is %d, and MakeFirst succeeds: %v", sidesName("MakeMany", p), many, first)
		}
	})
}

// Each grid has one of all pairings there are.
func TestP65AllGrids(t *testing.T) {
	for _, tried := range allTried() {
		sum := 0
		for _, pairs := range allPairings(2*tried.n + 2*tried.m) {
			many, ok := impl.MakeMany(tried.n, tried.m, pairs)
			if !ok {
				t.Fatalf("%s fails", sidesName("MakeMany", ofSides{tried.n, tried.m, pairs}))
			}
			sum += many
		}
		wantNumber(t, pairsName("the sum of MakeMany", nil, tried.n, tried.m), sum, true, len(allGrids(tried.n, tried.m)))
	}
}

// madePairing is a pairing with what is told of the grids that have it: how many there are, the first one, and the fewest mirrors.
type madePairing struct {
	p      ofSides
	many   int
	first  []string
	fewest int
}

// toldMakings returns pairings with what is told of the grids that have them. The first grids of two of them have more mirrors than the fewest.
func toldMakings() []madePairing {
	return []madePairing{
		{ofSides{1, 1, []int{2, 3, 0, 1}}, 1, []string{"."}, 0},
		{ofSides{1, 1, []int{3, 2, 1, 0}}, 1, []string{"r"}, 1},
		{ofSides{1, 1, []int{1, 0, 3, 2}}, 1, []string{"f"}, 1},
		{ofSides{1, 2, []int{4, 3, 5, 1, 0, 2}}, 1, []string{".."}, 0},
		{ofSides{1, 2, []int{4, 2, 1, 5, 0, 3}}, 1, []string{".f"}, 1},
		{ofSides{1, 2, []int{5, 3, 4, 1, 2, 0}}, 1, []string{"r."}, 1},
		{ofSides{1, 2, []int{5, 4, 3, 2, 1, 0}}, 1, []string{"rr"}, 2},
		{ofSides{2, 1, []int{3, 5, 4, 0, 2, 1}}, 1, []string{".", "."}, 0},
		{ofSides{2, 1, []int{1, 0, 4, 5, 2, 3}}, 1, []string{"f", "."}, 1},
		{ofSides{2, 1, []int{5, 2, 1, 4, 3, 0}}, 1, []string{"r", "f"}, 2},
		{ofSides{1, 5, []int{10, 9, 8, 7, 6, 11, 4, 3, 2, 1, 0, 5}}, 1, []string{"....."}, 0},
		{ofSides{1, 5, neighbours(12)}, 1, []string{"frfrf"}, 5},
		{ofSides{5, 1, nested(12)}, 1, []string{"r", "r", "r", "r", "r"}, 5},
		{ofSides{2, 2, []int{5, 4, 7, 6, 1, 0, 3, 2}}, 1, []string{"..", ".."}, 0},
		{ofSides{2, 2, []int{7, 2, 1, 4, 3, 6, 5, 0}}, 9, []string{"rf", "f."}, 3},
		{ofSides{2, 2, neighbours(8)}, 1, []string{"fr", "rf"}, 4},
		{ofSides{2, 2, nested(8)}, 2, []string{"r.", ".r"}, 2},
		{ofSides{2, 3, []int{9, 6, 3, 2, 5, 4, 1, 8, 7, 0}}, 25, []string{"r.f", "f.."}, 3},
		{ofSides{2, 3, neighbours(10)}, 9, []string{"frf", "rf."}, 5},
		{ofSides{2, 3, nested(10)}, 3, []string{"rr.", "r.r"}, 4},
		{ofSides{2, 3, []int{9, 3, 7, 1, 5, 4, 8, 2, 6, 0}}, 3, []string{"rf.", "r.r"}, 4},
		{ofSides{2, 3, []int{1, 0, 6, 9, 5, 4, 2, 8, 7, 3}}, 3, []string{"frr", "f.r"}, 3},
		{ofSides{3, 2, []int{3, 2, 1, 0, 5, 4, 7, 6, 9, 8}}, 11, []string{"ff", "rf", "f."}, 4},
		{ofSides{3, 2, []int{9, 2, 1, 8, 5, 4, 7, 6, 3, 0}}, 25, []string{"rf", "..", "f."}, 3},
		{ofSides{3, 2, []int{6, 5, 9, 8, 7, 1, 0, 4, 3, 2}}, 1, []string{"..", "..", ".."}, 0},
	}
}

func TestP65ManyTold(t *testing.T) {
	for _, c := range toldMakings() {
		many, ok := impl.MakeMany(c.p.n, c.p.m, c.p.pairs)
		wantNumber(t, sidesName("MakeMany", c.p), many, ok, c.many)
	}
}

// unmadePairings returns pairings that no grid of their rows and columns has, some of which are those of grids with rows and columns exchanged.
func unmadePairings() []ofSides {
	return []ofSides{
		{1, 2, []int{1, 0, 4, 5, 2, 3}},
		{1, 2, []int{1, 0, 5, 4, 3, 2}},
		{1, 2, []int{3, 5, 4, 0, 2, 1}},
		{1, 2, []int{2, 4, 0, 5, 1, 3}},
		{1, 2, across(6)},
		{2, 1, []int{4, 3, 5, 1, 0, 2}},
		{2, 1, []int{3, 2, 1, 0, 5, 4}},
		{2, 1, across(6)},
		{1, 3, []int{4, 7, 6, 5, 0, 3, 2, 1}},
		{1, 5, across(12)},
		{5, 1, across(12)},
		{1, 5, []int{6, 11, 10, 9, 8, 7, 0, 5, 4, 3, 2, 1}},
		{5, 1, []int{10, 9, 8, 7, 6, 11, 4, 3, 2, 1, 0, 5}},
		{2, 2, across(8)},
		{2, 3, across(10)},
		{3, 2, across(10)},
		{2, 3, []int{6, 5, 9, 8, 7, 1, 0, 4, 3, 2}},
		{3, 2, []int{7, 6, 5, 9, 8, 2, 1, 0, 4, 3}},
	}
}

// A pairing that no grid has is told by 0 grids, and has no first one and no fewest mirrors.
func TestP65NoGridsTold(t *testing.T) {
	for _, p := range unmadePairings() {
		many, ok := impl.MakeMany(p.n, p.m, p.pairs)
		wantNumber(t, sidesName("MakeMany", p), many, ok, 0)
		first, ok := impl.MakeFirst(p.n, p.m, p.pairs)
		wantNoGrid(t, sidesName("MakeFirst", p), first, ok)
		fewest, ok := impl.MakeFewest(p.n, p.m, p.pairs)
		wantNoNumber(t, sidesName("MakeFewest", p), fewest, ok)
	}
}

// Promise 66: the first grid that has a pairing has it, and no fewer mirrors than the fewest.
func TestP66MakeFirst(t *testing.T) {
	everyMaking(func(p ofSides, grids [][]string) {
		first, ok := impl.MakeFirst(p.n, p.m, p.pairs)
		if len(grids) == 0 {
			wantNoGrid(t, sidesName("MakeFirst", p), first, ok)
			return
		}
		wantGrid(t, sidesName("MakeFirst", p), first, ok, grids[0])
		wantNumbers(t, name("BeamPairs", first), gridSides(t, first).pairs, true, p.pairs...)
		fewest, ok := impl.MakeFewest(p.n, p.m, p.pairs)
		if mirrors := ofGrid(t, "GridCount", impl.GridCount, first); !ok || mirrors < fewest {
			t.Errorf("%s is %d, %v, and the first grid has %d", sidesName("MakeFewest", p), fewest, ok, mirrors)
		}
	})
}

func TestP66FirstTold(t *testing.T) {
	for _, c := range toldMakings() {
		first, ok := impl.MakeFirst(c.p.n, c.p.m, c.p.pairs)
		wantGrid(t, sidesName("MakeFirst", c.p), first, ok, c.first)
	}
}

// Promise 67: the fewest mirrors are no more than cells, and none exactly for the pairing of the empty grid.
func TestP67MakeFewest(t *testing.T) {
	everyMaking(func(p ofSides, grids [][]string) {
		fewest, ok := impl.MakeFewest(p.n, p.m, p.pairs)
		if len(grids) == 0 {
			wantNoNumber(t, sidesName("MakeFewest", p), fewest, ok)
			return
		}
		wantNumber(t, sidesName("MakeFewest", p), fewest, ok, fewestOf(grids))
		unit, ok := impl.JoinUnit(p.n, p.m)
		if !ok || (fewest == 0) != slices.Equal(p.pairs, unit) {
			t.Errorf("%s is %d, and JoinUnit %v, %v", sidesName("MakeFewest", p), fewest, unit, ok)
		}
		if fewest > p.n*p.m {
			t.Errorf("%s is %d", sidesName("MakeFewest", p), fewest)
		}
	})
}

func TestP67FewestTold(t *testing.T) {
	for _, c := range toldMakings() {
		fewest, ok := impl.MakeFewest(c.p.n, c.p.m, c.p.pairs)
		wantNumber(t, sidesName("MakeFewest", c.p), fewest, ok, c.fewest)
	}
}

// Promise 68: the first pair has a plain pairing on each side, and so many pairs together are left for them.
func TestP68MakePlain(t *testing.T) {
	plains := []int{}
	for k := range 9 {
		plain, ok := impl.MakePlain(k)
		wantNumber(t, pairsName("MakePlain", nil, k), plain, ok, len(plainFurther(0, 2*k)))
		if k > 0 {
			sum := 0
			for i := range k {
				sum += plains[i] * plains[k-i-1]
			}
			wantNumber(t, pairsName("MakePlain", nil, k), plain, ok, sum)
		}
		plains = append(plains, plain)
	}
}

func TestP68PlainTold(t *testing.T) {
	for k, want := range []int{1, 1, 2, 5, 14, 42, 132, 429, 1430} {
		plain, ok := impl.MakePlain(k)
		wantNumber(t, pairsName("MakePlain", nil, k), plain, ok, want)
	}
}

// Promise 69: a pairing with a first grid has one grid at least, and two if another one with the mirrors of this exchanged has it too.
func TestP69MakeMany(t *testing.T) {
	everyMaking(func(p ofSides, grids [][]string) {
		first, made := impl.MakeFirst(p.n, p.m, p.pairs)
		if made != (len(grids) > 0) {
			t.Errorf("%s succeeds: %v, of %d grids", sidesName("MakeFirst", p), made, len(grids))
		}
		if !made {
			return
		}
		many, ok := impl.MakeMany(p.n, p.m, p.pairs)
		if !ok || many < 1 {
			t.Errorf("%s is %d, %v", sidesName("MakeMany", p), many, ok)
		}
		other, ok := impl.GridOther(first)
		must(t, ok, "GridOther", first)
		if mirrorsOf(first) > 0 && slices.Equal(gridSides(t, other).pairs, p.pairs) && many < 2 {
			t.Errorf("%s is %d, but %q and %q have it", sidesName("MakeMany", p), many, first, other)
		}
	})
}

// No grid with mirrors and at most 6 cells has the pairing of GridOther of it, so that no pairing has two grids for this reason.
func TestP69NoOthers(t *testing.T) {
	for _, tried := range allTried() {
		for _, g := range allGrids(tried.n, tried.m) {
			other, ok := impl.GridOther(g)
			must(t, ok, "GridOther", g)
			if mirrorsOf(g) > 0 && slices.Equal(followedPairs(other), followedPairs(g)) {
				t.Errorf("%q and %q have the same pairing", g, other)
			}
		}
	}
}

// A pairing that each of some grids has is one of them all, and of no other grid.
func TestP69GridsTold(t *testing.T) {
	for _, c := range [][][]string{
		{{"r.", ".r"}, {"rr", "rr"}},
		{{"rf", "f."}, {"rf", ".r"}, {"rf", "rr"}, {"r.", "fr"}, {"rr", "fr"}, {".f", "fr"}, {"rf", "fr"}, {"ff", "fr"}, {"rf", "ff"}},
		{{"rf.", "r.r"}, {"rf.", ".fr"}, {"r.r", ".fr"}},
		{{"rr", "r.", ".r"}, {"r.", ".r", "rr"}, {"rr", "rr", "rr"}},
		{{"fr", "rf"}},
	} {
		for _, g := range c {
			p := gridSides(t, g)
			many, ok := impl.MakeMany(p.n, p.m, p.pairs)
			wantNumber(t, name("MakeMany", g), many, ok, len(c))
			first, ok := impl.MakeFirst(p.n, p.m, p.pairs)
			wantGrid(t, name("MakeFirst", g), first, ok, c[0])
		}
	}
}

// Promise 70: a pairing turned takes as many mirrors.
func TestP70MakeFewest(t *testing.T) {
	everyMaking(func(p ofSides, grids [][]string) {
		fewest, made := impl.MakeFewest(p.n, p.m, p.pairs)
		turned := p
		for range 3 {
			turned = turnSides(t, turned)
			number, ok := impl.MakeFewest(turned.n, turned.m, turned.pairs)
			if made {
				wantNumber(t, sidesName("turned, MakeFewest", p), number, ok, fewest)
			} else {
				wantNoNumber(t, sidesName("turned, MakeFewest", p), number, ok)
			}
		}
	})
}

// What is told of a pairing is told of it turned, the grids being turned with it.
func TestP70TurnedTold(t *testing.T) {
	for _, c := range toldMakings() {
		turned := c.p.turned()
		many, ok := impl.MakeMany(turned.n, turned.m, turned.pairs)
		wantNumber(t, sidesName("MakeMany", turned), many, ok, c.many)
		fewest, ok := impl.MakeFewest(turned.n, turned.m, turned.pairs)
		wantNumber(t, sidesName("MakeFewest", turned), fewest, ok, c.fewest)
		if c.many == 1 {
			first, ok := impl.MakeFirst(turned.n, turned.m, turned.pairs)
			wantGrid(t, sidesName("MakeFirst", turned), first, ok, turn(t, c.first))
		}
	}
}

// wantNoMaking checks that nothing is made for a pairing of numbers of rows and columns.
func wantNoMaking(t *testing.T, n, m int, pairs []int) {
	t.Helper()
	many, ok := impl.MakeMany(n, m, pairs)
	wantNoNumber(t, pairsName("MakeMany", pairs, n, m), many, ok)
	first, ok := impl.MakeFirst(n, m, pairs)
	wantNoGrid(t, pairsName("MakeFirst", pairs, n, m), first, ok)
	fewest, ok := impl.MakeFewest(n, m, pairs)
	wantNoNumber(t, pairsName("MakeFewest", pairs, n, m), fewest, ok)
}

// wantNoCounts checks that no pairings are counted for numbers of rows and columns.
func wantNoCounts(t *testing.T, n, m int) {
	t.Helper()
	all, ok := impl.MakeAll(n, m)
	wantNoNumber(t, pairsName("MakeAll", nil, n, m), all, ok)
	full, ok := impl.MakeFull(n, m)
	wantNoNumber(t, pairsName("MakeFull", nil, n, m), full, ok)
}

func TestMakingOfMoreCells(t *testing.T) {
	for _, sides := range sidesWithMore(madeCells) {
		n, m := sides[0], sides[1]
		wantNoCounts(t, n, m)
		wantNoMaking(t, n, m, followedPairs(emptyGrid(n, m)))
		wantNoMaking(t, n, m, followedPairs(gridOfLetters(checkered(n, m), m)))
		for ports := 4; ports <= 20; ports += 2 {
			wantNoMaking(t, n, m, neighbours(ports))
		}
	}
}

func TestMakingOfNoSides(t *testing.T) {
	for _, sides := range sidesFor() {
		n, m := sides[0], sides[1]
		wantNoCounts(t, n, m)
		for ports := 4; ports <= 20; ports += 2 {
			wantNoMaking(t, n, m, neighbours(ports))
		}
		wantNoMaking(t, n, m, nil)
	}
	// 6 rows and 1 column have as many cells and ports as are told, but no grid has so many rows.
	for _, sides := range [][2]int{{6, 1}, {1, 6}, {0, 2}, {2, 0}, {-1, 3}, {3, -1}, {-2, -2}, {-2, -3}, {7, -5}} {
		wantNoCounts(t, sides[0], sides[1])
		for ports := 4; ports <= 20; ports += 2 {
			wantNoMaking(t, sides[0], sides[1], nested(ports))
		}
	}
}

func TestMakingOfNoPairings(t *testing.T) {
	for _, tried := range allTried() {
		for _, list := range notPairings() {
			wantNoMaking(t, tried.n, tried.m, list)
		}
	}
}

func TestMakingOfOtherSides(t *testing.T) {
	for _, tried := range allTried() {
		for _, other := range allTried() {
			if tried.n+tried.m != other.n+other.m {
				wantNoMaking(t, tried.n, tried.m, other.lists[0])
				wantNoMaking(t, tried.n, tried.m, neighbours(2*other.n+2*other.m))
			}
		}
		for ports := 14; ports <= 20; ports += 2 {
			wantNoMaking(t, tried.n, tried.m, across(ports))
		}
	}
}

// There are no numbers of pairings for k that are negative or greater than 8.
func TestPlainOfOtherNumbers(t *testing.T) {
	for _, k := range append(someNumbers(), 9, 10, -9, 16, 1<<32, 1<<32+3) {
		plain, ok := impl.MakePlain(k)
		if k < 0 || k > 8 {
			wantNoNumber(t, pairsName("MakePlain", nil, k), plain, ok)
		} else if !ok {
			t.Errorf("%s fails", pairsName("MakePlain", nil, k))
		}
	}
}

func TestMakingSharesNoMemory(t *testing.T) {
	for _, c := range toldMakings() {
		all := append(slices.Clone(c.p.pairs), 7, 8)
		told := all[:len(c.p.pairs)]
		wantOwnMemory(t, sidesName("MakeFirst", c.p), "spoilt", func() ([]string, bool) { return impl.MakeFirst(c.p.n, c.p.m, told) })
		impl.MakeMany(c.p.n, c.p.m, told)
		impl.MakeFewest(c.p.n, c.p.m, told)
		if !slices.Equal(all, append(slices.Clone(c.p.pairs), 7, 8)) {
			t.Errorf("the pairing was changed: %v", all)
		}
	}
}

// Calls at the same time return the same, again and again, so that it does not matter which goroutine is ahead.
func TestMakingAtOnce(t *testing.T) {
	var calls sync.WaitGroup
	for range 8 {
		calls.Go(func() {
			for _, c := range toldMakings() {
				first, ok := impl.MakeFirst(c.p.n, c.p.m, c.p.pairs)
				wantGrid(t, sidesName("MakeFirst", c.p), first, ok, c.first)
				many, ok := impl.MakeMany(c.p.n, c.p.m, c.p.pairs)
				wantNumber(t, sidesName("MakeMany", c.p), many, ok, c.many)
				fewest, ok := impl.MakeFewest(c.p.n, c.p.m, c.p.pairs)
				wantNumber(t, sidesName("MakeFewest", c.p), fewest, ok, c.fewest)
			}
			all, ok := impl.MakeAll(2, 3)
			wantNumber(t, "MakeAll of 2 3", all, ok, 373)
			full, ok := impl.MakeFull(2, 3)
			wantNumber(t, "MakeFull of 2 3", full, ok, 33)
		})
	}
	calls.Wait()
}

// No goroutine goes on behind a call, whether it succeeds or fails.
func TestMakingLeavesNoGoroutine(t *testing.T) {
	before := runtime.NumGoroutine()
	for range 20 {
		for _, c := range toldMakings() {
			impl.MakeFirst(c.p.n, c.p.m, c.p.pairs)
			impl.MakeMany(c.p.n, c.p.m, c.p.pairs[1:])
			impl.MakeFewest(c.p.n, c.p.m, across(len(c.p.pairs)))
			impl.MakeAll(c.p.n, c.p.m)
			impl.MakeFull(c.p.n, c.p.m+1)
		}
	}
	// A goroutine that has told that it is done may be counted for a moment.
	for range 200 {
		if runtime.NumGoroutine() <= before {
			return
		}
		time.Sleep(10 * time.Millisecond)
	}
	t.Errorf("%d goroutines, %d before", runtime.NumGoroutine(), before)
}
