package tests

import (
	"slices"
	"sync"
)

// askedCells is the greatest number of cells of grids whose mirrors are hidden.
const askedCells = 4

// hiddenSides has all grids of n rows and m columns, in the order of their numbers, and what the tests find, by following beams alone, of their pairings.
type hiddenSides struct {
	n, m  int
	grids [][]string
	pairs [][]int
}

// asked is answers of n rows and m columns, with the grids that fit them, in the order of their numbers.
type asked struct {
	sides   hiddenSides
	answers []int
	fits    [][]string
}

// hide follows the beams of all grids of n rows and m columns.
func hide(n, m int) hiddenSides {
	s := hiddenSides{n: n, m: m, grids: allGrids(n, m)}
	for _, g := range s.grids {
		s.pairs = append(s.pairs, followedPairs(g))
	}
	return s
}

// allHidden returns what the tests find for all numbers of rows and columns with at most askedCells cells, once for all tests.
var allHidden = sync.OnceValue(func() []hiddenSides {
	all := []hiddenSides{}
	everySides(func(n, m int) {
		if n*m <= askedCells {
			all = append(all, hide(n, m))
		}
	})
	return all
})

// hiddenOf returns what the tests find for n rows and m columns.
func hiddenOf(n, m int) hiddenSides {
	all := allHidden()
	return all[slices.IndexFunc(all, func(s hiddenSides) bool { return s.n == n && s.m == m })]
}

// ports returns the number of ports.
func (s hiddenSides) ports() int {
	return 2*s.n + 2*s.m
}

// ask returns answers with the grids that fit them.
func (s hiddenSides) ask(answers []int) asked {
	a := asked{sides: s, answers: answers}
	for at, pairs := range s.pairs {
		if answersHold(answers, pairs) {
			a.fits = append(a.fits, s.grids[at])
		}
	}
	return a
}

// answersHold reports whether a pairing is told by answers.
func answersHold(answers, pairs []int) bool {
	for port, answer := range answers {
		if answer >= 0 && pairs[port] != answer {
			return false
		}
	}
	return true
}

// noAnswers returns the answers of so many ports none of which was asked.
func noAnswers(ports int) []int {
	return slices.Repeat([]int{-1}, ports)
}

// withAnswer returns answers with another one for a port.
func withAnswer(answers []int, port, answer int) []int {
	changed := slices.Clone(answers)
	changed[port] = answer
	return changed
}

// answersTo returns the answers of a pairing for the ports of a set.
func answersTo(pairs []int, set int) []int {
	answers := noAnswers(len(pairs))
	for port, partner := range pairs {
		if set&(1<<port) != 0 {
			answers[port] = partner
		}
	}
	return answers
}

// ports returns the number of ports.
func (a asked) ports() int {
	return len(a.answers)
}

// many returns how many ports were asked.
func (a asked) many() int {
	return a.ports() - len(slices.DeleteFunc(slices.Clone(a.answers), func(answer int) bool { return answer >= 0 }))
}

// with returns the answers with another one for a port.
func (a asked) with(port, answer int) asked {
	return a.sides.ask(withAnswer(a.answers, port, answer))
}

// worst returns the greatest number of grids that fit one more answer for a port.
func (a asked) worst(port int) int {
	if a.answers[port] >= 0 {
		return len(a.fits)
	}
	worst := 0
	for partner := range a.ports() {
		worst = max(worst, len(a.with(port, partner).fits))
	}
	return worst
}

// best returns the ports for which worst is least.
func (a asked) best() []int {
	least, best := len(a.sides.grids)+1, []int{}
	for port := range a.ports() {
		switch worst := a.worst(port); {
		case worst < least:
			least, best = worst, []int{port}
		case worst == least:
			best = append(best, port)
		}
	}
	return best
}

// sure returns the letters, row by row, that all grids that fit have, and question marks; there is one at least.
func (a asked) sure() []string {
	letters := ""
	for cell := range a.sides.n * a.sides.m {
		letter := string(letterAt(a.fits[0], cell))
		if slices.ContainsFunc(a.fits, func(g []string) bool { return string(letterAt(g, cell)) != letter }) {
			letter = "?"
		}
		letters += letter
	}
	return gridOfLetters(letters, a.sides.m)
}

// turned returns the answers turned by a quarter to the right.
func (a asked) turned() asked {
	answers := noAnswers(a.ports())
	for port, answer := range a.answers {
		if answer >= 0 {
			answers[a.sides.turnedPort(port)] = a.sides.turnedPort(answer)
		}
	}
	return hiddenOf(a.sides.m, a.sides.n).ask(answers)
}

// turnedPort returns what a port becomes when its grid is turned by a quarter to the right.
func (s hiddenSides) turnedPort(port int) int {
	spot := portSpots(s.n, s.m)[port]
	return spotPort(s.m, s.n, spot[1], s.n+1-spot[0])
}

// turnedTexts returns letters, and question marks among them, turned by a quarter to the right.
func turnedTexts(texts []string) []string {
	turned := []string{}
	for column := range texts[0] {
		row := ""
		for _, text := range texts {
			row = string(exchange(text[column])) + row
		}
		turned = append(turned, row)
	}
	return turned
}

// setsOf returns sets of ports: all there are of at most 6, and of more the ones of no port, of all, of each one alone, of all but each one, and some others.
func setsOf(ports int) []int {
	all := 1<<ports - 1
	sets := []int{0, all}
	for port := range ports {
		sets = append(sets, 1<<port, all-1<<port)
	}
	state := uint32(ports)
	for range 30 {
		state = state*1664525 + 1013904223
		sets = append(sets, int(state>>16)&all)
	}
	if ports <= 6 {
		for set := range all {
			sets = append(sets, set)
		}
	}
	slices.Sort(sets)
	return slices.Compact(sets)
}

// mixedAnswers returns some answers of so many ports, always the same ones, to most of which no grid fits.
func mixedAnswers(ports, many int) [][]int {
	lists := [][]int{}
	state := uint32(ports)
	for range many {
		answers := noAnswers(ports)
		for port := range answers {
			state = state*1664525 + 1013904223
			if state>>30 == 0 {
				answers[port] = int(state>>16) % ports
			}
		}
		lists = append(lists, answers)
	}
	return lists
}

// everyAnswer returns all lists of so many numbers from -1 on and less than it.
func everyAnswer(ports int) [][]int {
	lists := [][]int{{}}
	for range ports {
		longer := [][]int{}
		for _, list := range lists {
			for answer := -1; answer < ports; answer++ {
				longer = append(longer, append(slices.Clone(list), answer))
			}
		}
		lists = longer
	}
	return lists
}

// answers returns answers: all there are of 4 ports, and otherwise none, each one alone, those of all grids for one of setsOf each or for all of them, and some others. None stands there twice.
func (s hiddenSides) answers() [][]int {
	if s.ports() == 4 {
		return everyAnswer(4)
	}
	lists := append(mixedAnswers(s.ports(), 60), noAnswers(s.ports()))
	for port := range s.ports() {
		for partner := range s.ports() {
			lists = append(lists, withAnswer(noAnswers(s.ports()), port, partner))
		}
	}
	sets := setsOf(s.ports())
	for at, pairs := range s.pairs {
		some := []int{1<<s.ports() - 1, sets[at%len(sets)], sets[(7*at+3)%len(sets)], sets[(11*at+5)%len(sets)]}
		if len(s.pairs) < 10 {
			some = sets
		}
		for _, set := range some {
			lists = append(lists, answersTo(pairs, set))
		}
	}
	slices.SortFunc(lists, slices.Compare)
	return slices.CompactFunc(lists, slices.Equal)
}

// allAsked returns the answers of all numbers of rows and columns with at most askedCells cells, once for all tests.
var allAsked = sync.OnceValue(func() []asked {
	all := []asked{}
	for _, s := range allHidden() {
		for _, answers := range s.answers() {
			all = append(all, s.ask(answers))
		}
	}
	return all
})
