package tests

import (
	"slices"
	"strings"
	"sync"

	"loop.example/mirrorgrids/impl"
)

// throughMiddle is a grid whose middle cell has the sides above and below joined by a way outside of it.
var throughMiddle = []string{".rf", "...", ".fr"}

// changedCells is what the tests find, from drawings alone, of the changes of the cells of a grid.
type changedCells struct {
	g     []string
	paths int
	three [][3]int // for each cell, the paths with it empty, with r and with f
	self  []bool   // for each cell, whether one path has both passages
}

// withLetter returns the grid with a letter in a cell.
func withLetter(g []string, cell int, letter byte) []string {
	letters := []byte(strings.Join(g, ""))
	letters[cell] = letter
	return gridOfLetters(string(letters), len(g[0]))
}

// letterAt returns the letter of a cell.
func letterAt(g []string, cell int) byte {
	return g[cell/len(g[0])][cell%len(g[0])]
}

// pathsOf draws a grid and returns the number of its paths.
func pathsOf(g []string) int {
	d := draw(g)
	return d.rounds + d.beams
}

// changesOf draws a grid and what comes by changing its cells.
func changesOf(g []string) changedCells {
	n, m := len(g), len(g[0])
	drawn := drawnPaths(g)
	c := changedCells{g: g, paths: pathsOf(g)}
	for cell := range n * m {
		three := [3]int{}
		for at, letter := range []byte(".rf") {
			three[at] = pathsOf(withLetter(g, cell, letter))
		}
		joined := passagesOf(letterAt(g, cell), sidesOf(n, m, cell))
		c.three = append(c.three, three)
		c.self = append(c.self, drawn[joined[0][0]] == drawn[joined[1][0]])
	}
	return c
}

// mirror reports whether a cell has a mirror.
func (c changedCells) mirror(cell int) bool {
	return letterAt(c.g, cell) != '.'
}

// with returns the number of paths with another letter in a cell.
func (c changedCells) with(cell int, letter byte) int {
	return c.three[cell][strings.IndexByte(".rf", letter)]
}

// exchanged returns the number of paths with a cell exchanged.
func (c changedCells) exchanged(cell int) int {
	return c.with(cell, exchange(letterAt(c.g, cell)))
}

// best returns the cells with mirrors whose exchange makes the most paths, and this number.
func (c changedCells) best() ([]int, int) {
	cells, most := []int{}, -1
	for cell := range c.three {
		switch {
		case !c.mirror(cell) || c.exchanged(cell) < most:
		case c.exchanged(cell) > most:
			cells, most = []int{cell}, c.exchanged(cell)
		default:
			cells = append(cells, cell)
		}
	}
	return cells, most
}

// climb exchanges the first best cell of a grid as long as there are more paths, and returns the grids on the way, this one first.
func climb(g []string) [][]string {
	grids := [][]string{g}
	for {
		c := changesOf(g)
		cells, most := c.best()
		if most <= c.paths {
			return grids
		}
		g = withLetter(g, cells[0], exchange(letterAt(g, cells[0])))
		grids = append(grids, g)
	}
}

// movedPorts follows all beams of a grid with a cell exchanged and returns how many end elsewhere.
func movedPorts(g []string, cell int) int {
	other := withLetter(g, cell, exchange(letterAt(g, cell)))
	moved := 0
	for port := range portsOf(g) {
		if follow(g, port).end != follow(other, port).end {
			moved++
		}
	}
	return moved
}

// turnedCell returns the cell to which a cell comes when the grid is turned by a quarter to the right.
func turnedCell(g []string, cell int) int {
	n, m := len(g), len(g[0])
	return cell%m*n + n - 1 - cell/m
}

// changeGrids returns grids of all numbers of rows and columns, among them many whose cells are changed in each way.
func changeGrids() [][]string {
	told := [][]string{throughMiddle, crossingRound, touchingRound, meetingRounds, crossingRounds, chainRound, borderRound}
	return slices.Concat(sampleGrids(), allGrids(2, 3), fullGrids(3, 3), mixedGrids(3, 4, 60), mixedGrids(impl.SideMax, impl.SideMax, 60), changedCheckers(), told)
}

// allChanges returns the changes of all changeGrids, which are drawn once for all tests, since each takes three drawings a cell.
var allChanges = sync.OnceValue(func() []changedCells {
	all := []changedCells{}
	for _, g := range changeGrids() {
		all = append(all, changesOf(g))
	}
	return all
})
