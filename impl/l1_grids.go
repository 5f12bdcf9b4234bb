package impl

import (
	"iter"
	"strings"
)

// SideMax is the greatest number of rows and of columns.
const SideMax = 5

// cellLetters has the letter of a cell for each digit to the base 3.
const cellLetters = ".rf"

// numberedCellsMax is the greatest number of cells of a grid that GridNumber takes.
const numberedCellsMax = 20

// place is where a cell stands in its grid.
type place struct {
	row, column int
}

// grid is a list of texts that was found to be a grid.
// As a value it shares no memory with its copies, and the letters behind its last cell stay 0, so that equal grids are ==.
type grid struct {
	rows, columns int
	letters       [SideMax * SideMax]byte // by the numbers of the cells
}

func sideIn(side int) bool {
	return 1 <= side && side <= SideMax
}

// spanIn reports whether first and last are in this order among the numbers below size.
func spanIn(first, last, size int) bool {
	return 0 <= first && first <= last && last < size
}

// letterIn reports whether a text is the letter of a cell.
func letterIn(text string) bool {
	return len(text) == 1 && strings.Contains(cellLetters, text)
}

// exchanged returns the other mirror for a mirror, and an empty cell for an empty one.
func exchanged(letter byte) byte {
	switch letter {
	case 'r':
		return 'f'
	case 'f':
		return 'r'
	}
	return letter
}

// readGrid returns the grid of a list of texts, and whether the list is one.
func readGrid(texts []string) (grid, bool) {
	if !sideIn(len(texts)) || !sideIn(len(texts[0])) {
		return grid{}, false
	}
	g := grid{rows: len(texts), columns: len(texts[0])}
	for row, text := range texts {
		if len(text) != g.columns {
			return grid{}, false
		}
		for column := range g.columns {
			if !letterIn(text[column : column+1]) {
				return grid{}, false
			}
			g = g.with(place{row, column}, text[column])
		}
	}
	return g, true
}

// numberedGrid returns the grid that a number tells, and whether there is one.
func numberedGrid(rows, columns, number int) (grid, bool) {
	if !sideIn(rows) || !sideIn(columns) || number < 0 {
		return grid{}, false
	}
	g := grid{rows: rows, columns: columns}
	base := len(cellLetters)
	for cell := range g.size() {
		g = g.with(g.place(cell), cellLetters[number%base])
		number /= base
	}
	if number > 0 {
		return grid{}, false
	}
	return g, true
}

// joinedGrid returns a grid of two: g in the upper left corner, and h with its upper left cell at corner.
func joinedGrid(rows, columns int, g, h grid, corner place) grid {
	joined := grid{rows: rows, columns: columns}
	for p, letter := range g.cells() {
		joined = joined.with(p, letter)
	}
	for p, letter := range h.cells() {
		joined = joined.with(place{corner.row + p.row, corner.column + p.column}, letter)
	}
	return joined
}

// texts returns the rows as new texts.
func (g grid) texts() []string {
	texts := make([]string, g.rows)
	for row := range texts {
		texts[row] = string(g.letters[row*g.columns : (row+1)*g.columns])
	}
	return texts
}

// size returns the number of cells.
func (g grid) size() int {
	return g.rows * g.columns
}

// hasCell reports whether a number is one of a cell.
func (g grid) hasCell(cell int) bool {
	return 0 <= cell && cell < g.size()
}

// place returns where the cell of a number stands.
func (g grid) place(cell int) place {
	return place{cell / g.columns, cell % g.columns}
}

// cells yields the place and the letter of each cell, in the order of the numbers.
func (g grid) cells() iter.Seq2[place, byte] {
	return func(yield func(place, byte) bool) {
		for cell := range g.size() {
			if !yield(g.place(cell), g.letters[cell]) {
				return
			}
		}
	}
}

// cell returns the number of the cell at a place.
func (g grid) cell(p place) int {
	return p.row*g.columns + p.column
}

// at returns the letter at a place.
func (g grid) at(p place) byte {
	return g.letters[g.cell(p)]
}

// with returns the grid with another letter at a place.
func (g grid) with(p place, letter byte) grid {
	g.letters[g.cell(p)] = letter
	return g
}

// turned returns the grid turned by a quarter to the right.
func (g grid) turned() grid {
	turned := grid{rows: g.columns, columns: g.rows}
	for p, letter := range g.cells() {
		turned = turned.with(place{p.column, g.rows - 1 - p.row}, exchanged(letter))
	}
	return turned
}

// flipped returns the grid as it is seen from behind.
func (g grid) flipped() grid {
	flipped := grid{rows: g.rows, columns: g.columns}
	for p, letter := range g.cells() {
		flipped = flipped.with(place{p.row, g.columns - 1 - p.column}, exchanged(letter))
	}
	return flipped
}

// other returns the grid with all its mirrors exchanged.
func (g grid) other() grid {
	other := grid{rows: g.rows, columns: g.columns}
	for p, letter := range g.cells() {
		other = other.with(p, exchanged(letter))
	}
	return other
}

// beside returns the grid with another one to its right, and whether they fit.
func (g grid) beside(h grid) (grid, bool) {
	if g.rows != h.rows || !sideIn(g.columns+h.columns) {
		return grid{}, false
	}
	return joinedGrid(g.rows, g.columns+h.columns, g, h, place{0, g.columns}), true
}

// under returns the grid with another one below it, and whether they fit.
func (g grid) under(h grid) (grid, bool) {
	if g.columns != h.columns || !sideIn(g.rows+h.rows) {
		return grid{}, false
	}
	return joinedGrid(g.rows+h.rows, g.columns, g, h, place{g.rows, 0}), true
}

// part returns the grid of the rows from top to low and the columns from left to right, all of them in the grid.
func (g grid) part(top, low, left, right int) grid {
	part := grid{rows: low - top + 1, columns: right - left + 1}
	for p := range part.cells() {
		part = part.with(p, g.at(place{top + p.row, left + p.column}))
	}
	return part
}

// mirrors returns the number of mirrors.
func (g grid) mirrors() int {
	mirrors := 0
	for _, letter := range g.cells() {
		if letter != '.' {
			mirrors++
		}
	}
	return mirrors
}

// full reports whether no cell is empty.
func (g grid) full() bool {
	for _, letter := range g.cells() {
		if letter == '.' {
			return false
		}
	}
	return true
}

// number returns the number that tells the grid, which has at most numberedCellsMax cells.
func (g grid) number() int {
	number, value := 0, 1
	for _, letter := range g.cells() {
		number += value * strings.IndexByte(cellLetters, letter)
		value *= len(cellLetters)
	}
	return number
}

// changedTexts returns the texts of what a change makes of a grid.
func changedTexts(g []string, change func(grid) grid) ([]string, bool) {
	whole, ok := readGrid(g)
	if !ok {
		return nil, false
	}
	return change(whole).texts(), true
}

// joinedTexts returns the texts of what a join makes of two grids, and whether it makes one.
func joinedTexts(g, h []string, join func(first, second grid) (grid, bool)) ([]string, bool) {
	first, ok := readGrid(g)
	second, too := readGrid(h)
	if !ok || !too {
		return nil, false
	}
	whole, fit := join(first, second)
	if !fit {
		return nil, false
	}
	return whole.texts(), true
}

// GridIn reports whether a list is a grid.
func GridIn(g []string) bool {
	_, ok := readGrid(g)
	return ok
}

// GridTurn returns the grid turned by a quarter to the right, and true.
func GridTurn(g []string) ([]string, bool) {
	return changedTexts(g, grid.turned)
}

// GridFlip returns the grid as it is seen from behind, and true.
func GridFlip(g []string) ([]string, bool) {
	return changedTexts(g, grid.flipped)
}

// GridOther returns the grid with r and f exchanged, and true.
func GridOther(g []string) ([]string, bool) {
	return changedTexts(g, grid.other)
}

// GridBeside returns the grid of two grids with as many rows, the second one to the right, and true.
func GridBeside(g []string, h []string) ([]string, bool) {
	return joinedTexts(g, h, grid.beside)
}

// GridUnder returns the grid of two grids with as many columns, the second one below, and true.
func GridUnder(g []string, h []string) ([]string, bool) {
	return joinedTexts(g, h, grid.under)
}

// GridPart returns the grid of the rows from one to another one and the columns from one to another one, all told and among them, and true.
func GridPart(g []string, top int, low int, left int, right int) ([]string, bool) {
	whole, ok := readGrid(g)
	if !ok || !spanIn(top, low, whole.rows) || !spanIn(left, right, whole.columns) {
		return nil, false
	}
	return whole.part(top, low, left, right).texts(), true
}

// GridCount returns the number of mirrors of a grid, and true.
func GridCount(g []string) (int, bool) {
	whole, ok := readGrid(g)
	if !ok {
		return 0, false
	}
	return whole.mirrors(), true
}

// GridFull reports whether a grid is full; it does not hold for a list that is none.
func GridFull(g []string) bool {
	whole, ok := readGrid(g)
	return ok && whole.full()
}

// GridPut returns the grid with the cell of a number become a letter, ., r or f, and true.
func GridPut(g []string, cell int, letter string) ([]string, bool) {
	whole, ok := readGrid(g)
	if !ok || !whole.hasCell(cell) || !letterIn(letter) {
		return nil, false
	}
	return whole.with(whole.place(cell), letter[0]).texts(), true
}

// GridOf returns the grid of n rows and m columns, from 1 to SideMax each, whose cells, by their numbers, are told by the digits to the base 3 of a number from 0 on, the first cell by the last digit, 0 for ., 1 for r and 2 for f, and true.
func GridOf(n int, m int, number int) ([]string, bool) {
	g, ok := numberedGrid(n, m, number)
	if !ok {
		return nil, false
	}
	return g.texts(), true
}

// GridNumber returns the number that tells a grid so, for grids of at most 20 cells, and true.
func GridNumber(g []string) (int, bool) {
	whole, ok := readGrid(g)
	if !ok || whole.size() > numberedCellsMax {
		return 0, false
	}
	return whole.number(), true
}
