package tests

import (
	"slices"
	"strings"

	"loop.example/mirrorgrids/impl"
)

// followed is what the tests find, without the program, of the beam of a port.
type followed struct {
	cells []int // in order
	sides []int // the heading at each of them: 0 upwards, 1 rightwards, 2 downwards, 3 leftwards
	end   int
}

// portSpots returns, for each port, where it is in a frame that is one cell wider than the grid on each side, as row and column.
func portSpots(n, m int) [][2]int {
	spots := [][2]int{}
	for column := 1; column <= m; column++ {
		spots = append(spots, [2]int{0, column})
	}
	for row := 1; row <= n; row++ {
		spots = append(spots, [2]int{row, m + 1})
	}
	for column := m; column >= 1; column-- {
		spots = append(spots, [2]int{n + 1, column})
	}
	for row := n; row >= 1; row-- {
		spots = append(spots, [2]int{row, 0})
	}
	return spots
}

// inwards returns the step from a spot of the frame into the grid, as rows and columns.
func inwards(spot [2]int, n, m int) (int, int) {
	switch {
	case spot[0] == 0:
		return 1, 0
	case spot[1] == m+1:
		return 0, -1
	case spot[0] == n+1:
		return -1, 0
	}
	return 0, 1
}

// follow goes along the beam of a port from spot to spot of the frame.
func follow(g []string, port int) followed {
	n, m := len(g), len(g[0])
	spots := portSpots(n, m)
	spot := spots[port]
	down, right := inwards(spot, n, m)
	beam := followed{}
	for {
		spot = [2]int{spot[0] + down, spot[1] + right}
		if end := slices.Index(spots, spot); end >= 0 {
			beam.end = end
			return beam
		}
		beam.cells = append(beam.cells, (spot[0]-1)*m+spot[1]-1)
		beam.sides = append(beam.sides, slices.Index([][2]int{{-1, 0}, {0, 1}, {1, 0}, {0, -1}}, [2]int{down, right}))
		down, right = behind(g[spot[0]-1][spot[1]-1], down, right)
	}
}

// behind returns the step behind a cell with a letter, for the step into it.
func behind(letter byte, down, right int) (int, int) {
	switch letter {
	case 'r':
		return -right, -down
	case 'f':
		return right, down
	}
	return down, right
}

func (f followed) length() int {
	return len(f.cells)
}

// turns returns how often a beam of g is turned.
func (f followed) turns(g []string) int {
	turns := 0
	for _, cell := range f.cells {
		if strings.Join(g, "")[cell] != '.' {
			turns++
		}
	}
	return turns
}

// twice returns how many cells stand twice in a beam.
func (f followed) twice() int {
	twice := 0
	for at, cell := range f.cells {
		if slices.Contains(f.cells[:at], cell) {
			twice++
		}
	}
	return twice
}

// meets returns how many cells stand in both of two beams.
func (f followed) meets(other followed) int {
	meets := 0
	for cell := range impl.SideMax * impl.SideMax {
		if slices.Contains(f.cells, cell) && slices.Contains(other.cells, cell) {
			meets++
		}
	}
	return meets
}

// fullGrids returns all full grids of n rows and m columns.
func fullGrids(n, m int) [][]string {
	grids := [][]string{}
	for number := range 1 << (n * m) {
		letters := make([]byte, n*m)
		for cell := range letters {
			letters[cell] = "rf"[number>>cell&1]
		}
		grids = append(grids, gridOfLetters(string(letters), m))
	}
	return grids
}

// beamGrids returns grids of all numbers of rows and columns, more than sampleGrids, so that many of their beams go through cells twice.
func beamGrids() [][]string {
	return slices.Concat(sampleGrids(), allGrids(2, 3), allGrids(3, 2), fullGrids(3, 3), mixedGrids(3, 4, 100), mixedGrids(5, 5, 200))
}

// portsOf returns the number of ports of a grid.
func portsOf(g []string) int {
	return 2*len(g) + 2*len(g[0])
}

// atRow reports whether a port is at an end of a row.
func atRow(g []string, port int) bool {
	column := portSpots(len(g), len(g[0]))[port][1]
	return column == 0 || column == len(g[0])+1
}
