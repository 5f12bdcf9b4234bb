package tests

import (
	"slices"
	"strings"
	"sync"

	"loop.example/mirrorgrids/impl"
)

// madeCells is the greatest number of cells of grids whose pairings are found by trying all.
const madeCells = 6

// triedSides is what the tests find, by following beams alone, of all grids of n rows and m columns.
type triedSides struct {
	n, m   int
	lists  [][]int               // their different pairings
	makers map[string][][]string // for each of these, as text, the grids that have it, in the order of their numbers
}

// pairsText returns a pairing as text.
func pairsText(pairs []int) string {
	return pairsName("the pairing", pairs)
}

// tryAll follows the beams of all grids of n rows and m columns.
func tryAll(n, m int) triedSides {
	tried := triedSides{n: n, m: m, makers: map[string][][]string{}}
	for _, g := range allGrids(n, m) {
		pairs := followedPairs(g)
		text := pairsText(pairs)
		if len(tried.makers[text]) == 0 {
			tried.lists = append(tried.lists, pairs)
		}
		tried.makers[text] = append(tried.makers[text], g)
	}
	return tried
}

// allTried returns what the tests find for all numbers of rows and columns with at most madeCells cells, once for all tests.
var allTried = sync.OnceValue(func() []triedSides {
	all := []triedSides{}
	everySides(func(n, m int) {
		if n*m <= madeCells {
			all = append(all, tryAll(n, m))
		}
	})
	return all
})

// triedOf returns what the tests find for n rows and m columns.
func triedOf(n, m int) triedSides {
	all := allTried()
	return all[slices.IndexFunc(all, func(s triedSides) bool { return s.n == n && s.m == m })]
}

// grids returns the grids that have a pairing, in the order of their numbers.
func (s triedSides) grids(pairs []int) [][]string {
	return s.makers[pairsText(pairs)]
}

// full returns how many of the different pairings full grids have.
func (s triedSides) full() int {
	full := 0
	for _, pairs := range s.lists {
		if slices.ContainsFunc(s.grids(pairs), func(g []string) bool { return mirrorsOf(g) == s.n*s.m }) {
			full++
		}
	}
	return full
}

// pairings returns the pairings for which all grids are tried: all there are of at most 10 ports, and of 12 ports all that grids have and some others.
func (s triedSides) pairings() [][]int {
	ports := 2*s.n + 2*s.m
	if ports <= 10 {
		return allPairings(ports)
	}
	return slices.Concat(s.lists, mixedPairings(ports, 100), [][]int{neighbours(ports), turnedOnce(neighbours(ports)), nested(ports), across(ports)})
}

// mirrorsOf returns the number of mirrors of a grid.
func mirrorsOf(g []string) int {
	letters := strings.Join(g, "")
	return len(letters) - strings.Count(letters, ".")
}

// fewestOf returns the least number of mirrors of some grids.
func fewestOf(grids [][]string) int {
	fewest := impl.SideMax * impl.SideMax
	for _, g := range grids {
		fewest = min(fewest, mirrorsOf(g))
	}
	return fewest
}

// everyMaking calls check for the pairings of all numbers of rows and columns with at most madeCells cells, with the grids that have them.
func everyMaking(check func(p ofSides, grids [][]string)) {
	for _, tried := range allTried() {
		for _, pairs := range tried.pairings() {
			check(ofSides{tried.n, tried.m, pairs}, tried.grids(pairs))
		}
	}
}

// sidesWithMore returns numbers of rows and columns, from 1 to SideMax, with more than so many cells.
func sidesWithMore(cells int) [][2]int {
	sides := [][2]int{}
	everySides(func(n, m int) {
		if n*m > cells {
			sides = append(sides, [2]int{n, m})
		}
	})
	return sides
}
