package tests

import "sync"

// countedCells is the greatest number of cells of full grids that are counted.
const countedCells = 9

// countedSides is what the tests find, by drawing paths and following beams, of all full grids of n rows and m columns.
type countedSides struct {
	n, m    int
	grids   [][]string
	rounds  []int // for each grid, the number of its rounds
	partner []int // for each grid, the partner of the port 0
}

// countAll draws the paths of all full grids of n rows and m columns.
func countAll(n, m int) countedSides {
	s := countedSides{n: n, m: m, grids: fullGrids(n, m)}
	for _, g := range s.grids {
		s.rounds = append(s.rounds, draw(g).rounds)
		s.partner = append(s.partner, follow(g, 0).end)
	}
	return s
}

// allCounted returns what the tests find for all numbers of rows and columns with at most countedCells cells, once for all tests.
var allCounted = sync.OnceValue(func() []countedSides {
	all := []countedSides{}
	everySides(func(n, m int) {
		if n*m <= countedCells {
			all = append(all, countAll(n, m))
		}
	})
	return all
})

// timesOf returns how often each number below behind stands in a list.
func timesOf(numbers []int, behind int) []int {
	times := make([]int, behind)
	for _, number := range numbers {
		times[number]++
	}
	return times
}

// ofRounds returns, for each number of rounds up to the greatest one, how many grids have so many.
func (s countedSides) ofRounds() []int {
	return timesOf(s.rounds, mostRounds(s.n, s.m)+1)
}

// ofPorts returns, for each port, in how many grids it is the partner of the port 0.
func (s countedSides) ofPorts() []int {
	return timesOf(s.partner, 2*s.n+2*s.m)
}
