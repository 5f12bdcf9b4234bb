package tests

import (
	"slices"
	"sync"
)

// Grids of a round that beams cross all round, of two rounds that cross at 4 empty cells, of two beams that cross 3 times, and of one that crosses itself 3 times.
var (
	ringedGrid    = []string{"r.f", "...", "f.r"}
	crossedRounds = []string{".r.f.", "r...f", ".....", "f...r", ".f.r."}
	wovenGrid     = []string{"r.f", "..r", "f.."}
	knottedGrid   = []string{"r.f", "..r", "fr."}
)

// crossedCells is what the tests find, from a drawing alone, of the empty cells of a grid: at how many two beams, a beam and a round, and two rounds cross, and at how many one beam or one round crosses itself.
type crossedCells struct {
	g                    []string
	beams, mixed, rounds int
	oneBeam, oneRound    int
}

// all returns the number of cells of two paths.
func (c crossedCells) all() int {
	return c.beams + c.mixed + c.rounds
}

// crossedOf draws a grid and returns its crossed cells.
func crossedOf(g []string) crossedCells {
	n, m := len(g), len(g[0])
	paths := drawnPaths(g)
	border := borderPaths(paths, n, m)
	c := crossedCells{g: g}
	for cell := range n * m {
		if letterAt(g, cell) != '.' {
			continue
		}
		sides := sidesOf(n, m, cell)
		upright, level := paths[sides[0]], paths[sides[1]]
		first, second := slices.Contains(border, upright), slices.Contains(border, level)
		switch {
		case upright == level && first:
			c.oneBeam++
		case upright == level:
			c.oneRound++
		case first && second:
			c.beams++
		case first || second:
			c.mixed++
		default:
			c.rounds++
		}
	}
	return c
}

// crossGrids returns grids of all numbers of rows and columns, among them some whose paths cross in each way.
func crossGrids() [][]string {
	return append(roundGrids(), throughMiddle, ringedGrid, crossedRounds, wovenGrid, knottedGrid)
}

// allCrossed returns the crossed cells of all crossGrids, which are drawn once for all tests.
var allCrossed = sync.OnceValue(func() []crossedCells {
	all := []crossedCells{}
	for _, g := range crossGrids() {
		all = append(all, crossedOf(g))
	}
	return all
})

// emptyOf returns those of some cells of a grid that are empty.
func emptyOf(g []string, cells []int) []int {
	return slices.DeleteFunc(slices.Clone(cells), func(cell int) bool { return letterAt(g, cell) != '.' })
}

// crosses returns at how many cells two beams of a grid cross.
func (f followed) crosses(g []string, other followed) int {
	crosses := 0
	for _, cell := range emptyOf(g, f.cells) {
		if slices.Contains(other.cells, cell) {
			crosses++
		}
	}
	return crosses
}

// crossesSelf returns at how many cells a beam of a grid crosses itself.
func (f followed) crossesSelf(g []string) int {
	return followed{cells: emptyOf(g, f.cells)}.twice()
}

// between reports whether a port is one of those between two others.
func between(port, one, another int) bool {
	return min(one, another) < port && port < max(one, another)
}

// neighbours returns the pairing of each two ports that follow on each other.
func neighbours(ports int) []int {
	pairs := []int{}
	for port := range ports {
		pairs = append(pairs, port^1)
	}
	return pairs
}

// nested returns the pairing of the first port and the last one, the second one and the last one but one, and so on.
func nested(ports int) []int {
	pairs := []int{}
	for port := range ports {
		pairs = append(pairs, ports-1-port)
	}
	return pairs
}

// across returns the pairing of the ports in which all pairs cross.
func across(ports int) []int {
	pairs := []int{}
	for port := range ports {
		pairs = append(pairs, (port+ports/2)%ports)
	}
	return pairs
}

// pairedFurther returns all pairings that keep the pairs of some ports, those of all others being -1.
func pairedFurther(pairs []int) [][]int {
	first := slices.Index(pairs, -1)
	if first < 0 {
		return [][]int{pairs}
	}
	pairings := [][]int{}
	for other := first + 1; other < len(pairs); other++ {
		if pairs[other] < 0 {
			further := slices.Clone(pairs)
			further[first], further[other] = other, first
			pairings = append(pairings, pairedFurther(further)...)
		}
	}
	return pairings
}

// allPairings returns all pairings of a number of ports.
func allPairings(ports int) [][]int {
	return pairedFurther(slices.Repeat([]int{-1}, ports))
}

// mixedPairings returns some pairings of a number of ports, always the same ones.
func mixedPairings(ports, many int) [][]int {
	state := uint32(ports)
	pairings := [][]int{}
	for range many {
		order := []int{}
		for port := range ports {
			state = state*1664525 + 1013904223
			order = slices.Insert(order, int(state>>16)%(port+1), port)
		}
		pairs := make([]int, ports)
		for at := 0; at < ports; at += 2 {
			pairs[order[at]], pairs[order[at+1]] = order[at+1], order[at]
		}
		pairings = append(pairings, pairs)
	}
	return pairings
}

// samplePairings returns pairings of all numbers of ports: all of at most 8 ports, and some of the others.
func samplePairings() [][]int {
	pairings := slices.Concat(allPairings(4), allPairings(6), allPairings(8))
	for ports := 10; ports <= 20; ports += 2 {
		pairings = append(pairings, neighbours(ports), nested(ports), across(ports))
		pairings = append(pairings, mixedPairings(ports, 30)...)
	}
	return pairings
}

// notPairings returns lists that are no pairings.
func notPairings() [][]int {
	const least, greatest = -1 << 63, 1<<63 - 1
	return [][]int{
		nil,
		{},
		neighbours(4)[:0],
		{0},
		{1, 0},
		neighbours(20)[:2],
		{1, 0, 2},
		{1, 2, 0},
		{1, 0, 3},
		{1, 0, 3, 2, 4},
		{1, 0, 3, 2, 5},
		{1, 0, 3, 4, 2},
		append(neighbours(18), 18),
		append(neighbours(18), 17),
		append(neighbours(20), 20),
		neighbours(22),
		nested(22),
		across(22),
		across(24),
		neighbours(40),
		nested(300),
		make([]int, 4),
		make([]int, 20),
		make([]int, 300),
		{0, 1, 2, 3},
		{0, 2, 1, 3},
		{1, 0, 2, 3},
		{0, 1, 3, 2},
		{1, 2, 3, 0},
		{3, 0, 1, 2},
		{2, 3, 1, 0},
		{1, 0, 0, 1},
		{1, 0, 1, 2},
		{3, 3, 3, 0},
		{2, 3, 0, 2},
		{1, 2, 0, 4, 5, 3},
		{1, 0, 3, 4, 5, 2},
		{-1, 0, 3, 2},
		{1, 0, 3, -2},
		{-3, -4, -1, -2},
		{1, 0, 3, 4},
		{4, 0, 3, 2},
		{1, 0, 4, 5},
		{2, 1, 4, 3},
		{1, 0, 3, 20},
		{1, 0, 3, 22},
		{1, 0, 3, 256 + 2},
		{1, 0, 3, 1<<32 + 2},
		{least, 0, 3, 2},
		{1, greatest, 3, 2},
		{least, least, least, least},
		{greatest, greatest, greatest, greatest},
		nested(6)[:4],
		across(8)[:6],
		nested(22)[:20],
	}
}

// chordsOf returns how many four ports have the first and the third one as partners, and the second and the fourth one.
func chordsOf(pairs []int) int {
	chords := 0
	for fourth := range pairs {
		for third := range fourth {
			for second := range third {
				for first := range second {
					if pairs[first] == third && pairs[second] == fourth {
						chords++
					}
				}
			}
		}
	}
	return chords
}

// turnedOnce returns the pairing of the same pairs for ports with numbers 1 greater, taken round.
func turnedOnce(pairs []int) []int {
	turned := []int{}
	for _, partner := range slices.Concat(pairs[len(pairs)-1:], pairs[:len(pairs)-1]) {
		if partner == len(pairs)-1 {
			partner = -1
		}
		turned = append(turned, partner+1)
	}
	return turned
}
