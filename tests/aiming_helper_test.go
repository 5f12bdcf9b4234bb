package tests

import (
	"slices"
	"sync"
)

// aimedCells is the greatest number of cells of grids whose beams are aimed by going along them.
const aimedCells = 9

// aimedSides has all grids of n rows and m columns, and what the tests find, by following beams alone, of aiming: for each two ports and each grid, by its number, how many letters to change.
type aimedSides struct {
	hiddenSides
	costs map[[2]int][]int
}

// aim is a grid, told by its number, and two ports of it.
type aim struct {
	sides  *aimedSides
	number int
	p, q   int
}

// powerOf3 returns what a digit of the number of a grid stands for, by its cell.
func powerOf3(cell int) int {
	power := 1
	for range cell {
		power *= 3
	}
	return power
}

// apart returns in how many of so many cells the grids of two numbers have different letters.
func apart(one, another, cells int) int {
	different := 0
	for range cells {
		if one%3 != another%3 {
			different++
		}
		one, another = one/3, another/3
	}
	return different
}

// spread returns, for each number of a grid of so many cells, how many letters to change for one of some grids. One cell after the other may be changed.
func spread(among func(number int) bool, cells int) []int {
	costs := []int{}
	for number := range powerOf3(cells) {
		cost := cells + 1
		if among(number) {
			cost = 0
		}
		costs = append(costs, cost)
	}
	for cell := range cells {
		power := powerOf3(cell)
		for number := range costs {
			if number/power%3 == 0 {
				three := [3]*int{&costs[number], &costs[number+power], &costs[number+2*power]}
				least := min(*three[0], *three[1], *three[2])
				for _, cost := range three {
					*cost = min(*cost, least+1)
				}
			}
		}
	}
	return costs
}

// aimAll finds what aiming costs in all grids of n rows and m columns.
func aimAll(n, m int) *aimedSides {
	s := &aimedSides{hide(n, m), map[[2]int][]int{}}
	for q := range s.ports() {
		for p := range q {
			costs := spread(func(number int) bool { return s.pairs[number][p] == q }, n*m)
			s.costs[[2]int{p, q}], s.costs[[2]int{q, p}] = costs, costs
		}
	}
	return s
}

// allAimed returns what the tests find for all numbers of rows and columns with at most aimedCells cells, once for all tests.
var allAimed = sync.OnceValue(func() []*aimedSides {
	all := []*aimedSides{}
	everySides(func(n, m int) {
		if n*m <= aimedCells {
			all = append(all, aimAll(n, m))
		}
	})
	return all
})

// aimOf returns the aim of a grid and two ports.
func aimOf(g []string, p, q int) aim {
	all := allAimed()
	s := all[slices.IndexFunc(all, func(s *aimedSides) bool { return s.n == len(g) && s.m == len(g[0]) })]
	return aim{s, slices.IndexFunc(s.grids, func(other []string) bool { return slices.Equal(other, g) }), p, q}
}

// aims calls check for each step-th grid, by the numbers, and each two different ports.
func (s *aimedSides) aims(step int, check func(a aim)) {
	for number := 0; number < len(s.grids); number += step {
		for p := range s.ports() {
			for q := range s.ports() {
				if p != q {
					check(aim{s, number, p, q})
				}
			}
		}
	}
}

// everyTry calls check for aims in grids of at most madeCells cells: in all grids of at most 4 cells, and in some of the others.
func everyTry(check func(a aim)) {
	for _, s := range allAimed() {
		switch cells := s.n * s.m; {
		case cells <= 4:
			s.aims(1, check)
		case cells <= madeCells:
			s.aims(25, check)
		}
	}
}

// everyAim calls check for aims in grids of at most aimedCells cells: in all grids of at most madeCells cells, and in some of the others.
func everyAim(check func(a aim)) {
	for _, s := range allAimed() {
		if s.n*s.m <= madeCells {
			s.aims(1, check)
		} else {
			s.aims(13, check)
		}
	}
}

// grid returns the grid.
func (a aim) grid() []string {
	return a.sides.grids[a.number]
}

// cost returns how many letters to change so that the beam ends there.
func (a aim) cost() int {
	return a.sides.costs[[2]int{a.p, a.q}][a.number]
}

// hits returns the numbers of all grids in which the beam ends there, in order.
func (a aim) hits() []int {
	hits := []int{}
	for number, pairs := range a.sides.pairs {
		if pairs[a.p] == a.q {
			hits = append(hits, number)
		}
	}
	return hits
}

// nearest returns those of the grids of hits that cost least, in the order of their numbers.
func (a aim) nearest() [][]string {
	grids := [][]string{}
	for _, number := range a.hits() {
		if apart(number, a.number, a.sides.n*a.sides.m) == a.cost() {
			grids = append(grids, a.sides.grids[number])
		}
	}
	return grids
}

// back returns the aim of the second port at the first one.
func (a aim) back() aim {
	return aim{a.sides, a.number, a.q, a.p}
}

// emptied returns the aim in the grid with its first cell made empty.
func (a aim) emptied() aim {
	return aim{a.sides, a.number - a.number%3, a.p, a.q}
}

// sideOf returns the side of a port: 0 above, 1 to the right, 2 below, 3 to the left.
func (s hiddenSides) sideOf(port int) int {
	spot := portSpots(s.n, s.m)[port]
	switch {
	case spot[0] == 0:
		return 0
	case spot[1] == s.m+1:
		return 1
	case spot[0] == s.n+1:
		return 2
	}
	return 3
}

// sidesApart returns how the sides of both ports lie: 0 if they are one, 1 if they meet, 2 if they face each other.
func (a aim) sidesApart() int {
	apart := max(a.sides.sideOf(a.p), a.sides.sideOf(a.q)) - min(a.sides.sideOf(a.p), a.sides.sideOf(a.q))
	return min(apart, 4-apart)
}
