package tests

import (
	"slices"
	"strings"

	"loop.example/mirrorgrids/impl"
)

// Grids of 3 rows and 3 columns whose rounds meet in the middle: one that crosses itself, one at both sides of a mirror, and two at a mirror.
var (
	crossingRound = []string{"rf.", "f.f", ".fr"}
	touchingRound = []string{"rf.", "fff", ".fr"}
	meetingRounds = []string{"rf.", "frf", ".fr"}
)

// Grids of 2 rounds that cross at 2 empty cells, of one round that crosses itself 3 times, and of one that goes along the border of a greatest grid.
var (
	crossingRounds = []string{"r.f.", ".r.f", "f.r.", ".f.r"}
	chainRound     = []string{"rf...", "f.f..", ".f.f.", "..f.f", "...fr"}
	borderRound    = []string{"r...f", ".....", ".....", ".....", "f...r"}
)

// drawing is what the tests find of the paths of a grid without going along them: the sides of the cells, those of neighbours being one, joined as the letters tell.
type drawing struct {
	beams, rounds int
	lengths       []int    // of the rounds, in order
	passages      [][2]int // for each cell, the rounds that its two passages are of, or -1 for beams
}

// sidesOf returns the numbers of the sides of a cell: above it, to the right, below and to the left.
func sidesOf(n, m, cell int) [4]int {
	above := cell
	left := (n+1)*m + cell/m*(m+1) + cell%m
	return [4]int{above, left + 1, above + m, left}
}

// passagesOf returns which sides of a cell with a letter are joined.
func passagesOf(letter byte, sides [4]int) [2][2]int {
	above, right, below, left := sides[0], sides[1], sides[2], sides[3]
	switch letter {
	case 'r':
		return [2][2]int{{above, left}, {below, right}}
	case 'f':
		return [2][2]int{{above, right}, {below, left}}
	}
	return [2][2]int{{above, below}, {left, right}}
}

// drawnPaths returns, for each side of the cells of a grid, the least side of its path.
func drawnPaths(g []string) []int {
	n, m := len(g), len(g[0])
	paths := []int{}
	for side := range (n+1)*m + n*(m+1) {
		paths = append(paths, side)
	}
	for cell := range n * m {
		for _, joined := range passagesOf(g[cell/m][cell%m], sidesOf(n, m, cell)) {
			one, another := paths[joined[0]], paths[joined[1]]
			for side, path := range paths {
				if path == one || path == another {
					paths[side] = min(one, another)
				}
			}
		}
	}
	return paths
}

// borderPaths returns the paths of the sides at the border of a grid of n rows and m columns, one for each port.
func borderPaths(paths []int, n, m int) []int {
	border := []int{}
	for column := range m {
		border = append(border, paths[column], paths[n*m+column])
	}
	for row := range n {
		border = append(border, paths[(n+1)*m+row*(m+1)], paths[(n+1)*m+row*(m+1)+m])
	}
	return border
}

// draw returns the drawing of a grid.
func draw(g []string) drawing {
	n, m := len(g), len(g[0])
	paths := drawnPaths(g)
	border := borderPaths(paths, n, m)
	names, sizes := []int{}, []int{}
	for side, path := range paths {
		if slices.Contains(border, path) {
			continue
		}
		if path == side {
			names, sizes = append(names, path), append(sizes, 0)
		}
		sizes[slices.Index(names, path)]++
	}
	passages := [][2]int{}
	for cell := range n * m {
		joined := passagesOf(g[cell/m][cell%m], sidesOf(n, m, cell))
		passages = append(passages, [2]int{slices.Index(names, paths[joined[0][0]]), slices.Index(names, paths[joined[1][0]])})
	}
	slices.Sort(sizes)
	slices.Sort(border)
	return drawing{beams: len(slices.Compact(border)), rounds: len(names), lengths: sizes, passages: passages}
}

// at returns how many passages of a cell are of rounds.
func (d drawing) at(cell int) int {
	at := 0
	for _, round := range d.passages[cell] {
		if round >= 0 {
			at++
		}
	}
	return at
}

// twice returns how many cells have both passages of rounds.
func (d drawing) twice() int {
	twice := 0
	for cell := range d.passages {
		if d.at(cell) == 2 {
			twice++
		}
	}
	return twice
}

// least returns the least cell with a passage of a round, or -1.
func (d drawing) least() int {
	for cell := range d.passages {
		if d.at(cell) > 0 {
			return cell
		}
	}
	return -1
}

// ring goes on from a cell that is entered in a direction until it is entered so again, and returns the cells, or nil if this is a beam.
func ring(g []string, cell, d int) []int {
	n, m := len(g), len(g[0])
	row, column := cell/m, cell%m
	step := [][2]int{{-1, 0}, {0, 1}, {1, 0}, {0, -1}}[d]
	down, right := step[0], step[1]
	cells := []int{}
	for {
		cells = append(cells, row*m+column)
		down, right = behind(g[row][column], down, right)
		row, column = row+down, column+right
		if row < 0 || row == n || column < 0 || column == m {
			return nil
		}
		if row*m+column == cell && [2]int{down, right} == step {
			return cells
		}
	}
}

// checkered returns the letters of a grid of as many rounds of 4 cells as fit, row by row.
func checkered(n, m int) string {
	letters := ""
	for row := range n {
		letters += strings.Repeat("rfr"[row%2:row%2+2], m)[:m]
	}
	return letters
}

// changedCheckers returns the checkered grids of all numbers of rows and columns, as they are and with one cell changed, which makes longer rounds of those that meet there.
func changedCheckers() [][]string {
	grids := [][]string{}
	for n := 1; n <= impl.SideMax; n++ {
		for m := 1; m <= impl.SideMax; m++ {
			letters := checkered(n, m)
			for cell := range letters {
				for _, letter := range []string{".", "r", "f"} {
					grids = append(grids, gridOfLetters(letters[:cell]+letter+letters[cell+1:], m))
				}
			}
		}
	}
	return grids
}

// roundGrids returns grids of all numbers of rows and columns, among them many with rounds of each kind.
func roundGrids() [][]string {
	told := [][]string{crossingRound, touchingRound, meetingRounds, crossingRounds, chainRound, borderRound}
	return slices.Concat(beamGrids(), allGrids(1, 5), allGrids(5, 1), changedCheckers(), told)
}
