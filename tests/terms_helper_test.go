package tests

import (
	"slices"
	"strings"
	"sync"

	"loop.example/mirrorgrids/impl"
)

// termBytes is the greatest number of bytes of a term.
const termBytes = 60

// chainedCells is the greatest number of cells of a grid whose term has at most termBytes bytes: a letter for each one, and three bytes for each two that are joined.
const chainedCells = 15

// toldTerm is a term and the grid that it tells.
type toldTerm struct {
	text string
	grid []string
}

// flippedTexts returns a grid as it is seen from behind.
func flippedTexts(g []string) []string {
	flipped := []string{}
	for _, row := range exchangedTexts(g) {
		letters := []byte(row)
		slices.Reverse(letters)
		flipped = append(flipped, string(letters))
	}
	return flipped
}

// exchangedTexts returns a grid with its mirrors exchanged.
func exchangedTexts(g []string) []string {
	exchanged := []string{}
	for _, row := range g {
		exchanged = append(exchanged, strings.NewReplacer("r", "f", "f", "r").Replace(row))
	}
	return exchanged
}

// besideTexts returns a grid with another one to its right, or nil if they don't fit.
func besideTexts(g, h []string) []string {
	if len(g) != len(h) || len(g[0])+len(h[0]) > impl.SideMax {
		return nil
	}
	beside := []string{}
	for row := range g {
		beside = append(beside, g[row]+h[row])
	}
	return beside
}

// underTexts returns a grid with another one below it, or nil if they don't fit.
func underTexts(g, h []string) []string {
	if len(g[0]) != len(h[0]) || len(g)+len(h) > impl.SideMax {
		return nil
	}
	return slices.Concat(g, h)
}

// piece is a byte of a text, or g for the grid that some of them tell.
type piece struct {
	sign byte
	grid []string
}

// together returns the grid of the last pieces, if these are a term that tells one, and how many they are.
func together(pieces []piece) ([]string, int) {
	shape := ""
	for _, p := range pieces {
		shape += string(p.sign)
	}
	last := func(back int) []string { return pieces[len(pieces)-back].grid }
	switch {
	case strings.HasSuffix(shape, ">g"):
		return turnedTexts(last(1)), 2
	case strings.HasSuffix(shape, "^g"):
		return flippedTexts(last(1)), 2
	case strings.HasSuffix(shape, "*g"):
		return exchangedTexts(last(1)), 2
	case strings.HasSuffix(shape, "(g|g)"):
		return besideTexts(last(4), last(2)), 5
	case strings.HasSuffix(shape, "(g-g)"):
		return underTexts(last(4), last(2)), 5
	}
	return nil, 0
}

// tellTerm returns the grid that a text tells, and whether it is a term that tells one: found by taking byte after byte, and putting the last pieces together as long as they tell a grid. What tells none is left, so that more than one piece is left in the end.
func tellTerm(text string) ([]string, bool) {
	if len(text) > termBytes || strings.Trim(text, ".rf>^*(|-)") != "" {
		return nil, false
	}
	pieces := []piece{}
	for _, letter := range []byte(text) {
		if strings.IndexByte(".rf", letter) >= 0 {
			pieces = append(pieces, piece{'g', []string{string(letter)}})
		} else {
			pieces = append(pieces, piece{sign: letter})
		}
		for {
			g, many := together(pieces)
			if g == nil {
				break
			}
			pieces = append(pieces[:len(pieces)-many], piece{'g', g})
		}
	}
	if len(pieces) != 1 || pieces[0].grid == nil {
		return nil, false
	}
	return pieces[0].grid, true
}

// middleOf returns where the sign between both terms stands in a text that begins with a bracket, and where this is closed.
func middleOf(text string) (int, int) {
	middle, depth := 0, 0
	for at, letter := range []byte(text) {
		switch letter {
		case '(':
			depth++
		case ')':
			depth--
		case '|', '-':
			if depth == 1 {
				middle = at
			}
		}
		if depth == 0 {
			return middle, at
		}
	}
	return middle, len(text)
}

// movedSign returns what becomes of a sign in front of a text that begins with a letter or a bracket.
func movedSign(sign, text string) string {
	if text[0] != '(' {
		return exchangedTexts([]string{text[:1]})[0] + text[1:]
	}
	middle, end := middleOf(text)
	first, second, behind := sign+text[1:middle], sign+text[middle+1:end], text[end:]
	switch sign + text[middle:middle+1] {
	case ">|":
		return "(" + first + "-" + second + behind
	case ">-":
		return "(" + second + "|" + first + behind
	case "^|":
		return "(" + second + "|" + first + behind
	}
	return "(" + first + text[middle:middle+1] + second + behind
}

// tidyTerm moves the last sign of a term, behind which no other one stands, inwards, again and again until there is none.
func tidyTerm(text string) string {
	for {
		at := strings.LastIndexAny(text, ">^*")
		if at < 0 {
			return text
		}
		text = text[:at] + movedSign(text[at:at+1], text[at+1:])
	}
}

// shortTerms returns all terms of at most so many bytes, less than 9, which all tell grids, since none has more than two letters.
func shortTerms(bytes int) []string {
	ofLength := [][]string{nil, {".", "r", "f"}}
	for length := 2; length <= bytes; length++ {
		terms := []string{}
		for _, inner := range ofLength[length-1] {
			terms = append(terms, ">"+inner, "^"+inner, "*"+inner)
		}
		for first := 1; first < length-3; first++ {
			for _, one := range ofLength[first] {
				for _, another := range ofLength[length-3-first] {
					terms = append(terms, "("+one+"|"+another+")", "("+one+"-"+another+")")
				}
			}
		}
		ofLength = append(ofLength, terms)
	}
	return slices.Concat(ofLength...)
}

// shortTexts returns all texts of at most so many bytes, those of terms and an x.
func shortTexts(bytes int) []string {
	texts, longest := []string{""}, []string{""}
	for range bytes {
		longer := []string{}
		for _, text := range longest {
			for _, letter := range strings.Split(".rf>^*(|-)x", "") {
				longer = append(longer, text+letter)
			}
		}
		texts, longest = append(texts, longer...), longer
	}
	return texts
}

// termMaker makes terms of grids, always the same ones.
type termMaker struct {
	state uint32
}

// choose returns a number from 0 on, less than many.
func (k *termMaker) choose(many int) int {
	k.state = k.state*1664525 + 1013904223
	return int(k.state>>16) % many
}

// term returns a term that tells a grid, of some length. One in so many of its terms has a sign in front.
func (k *termMaker) term(g []string, often int) string {
	n, m := len(g), len(g[0])
	if k.choose(often) == 0 {
		switch k.choose(3) {
		case 0:
			return ">" + k.term(turnedTexts(turnedTexts(turnedTexts(g))), often)
		case 1:
			return "^" + k.term(flippedTexts(g), often)
		}
		return "*" + k.term(exchangedTexts(g), often)
	}
	if n*m == 1 {
		return g[0]
	}
	at := 1 + k.choose(n+m-2)
	if at < n {
		return "(" + k.term(g[:at], often) + "-" + k.term(g[at:], often) + ")"
	}
	left, right := cut(g, at-n+1)
	return "(" + k.term(left, often) + "|" + k.term(right, often) + ")"
}

// termGrids returns grids of all numbers of rows and columns with at most chainedCells cells, many of them with rounds.
func termGrids() [][]string {
	grids := slices.Concat(changedCheckers(), [][]string{crossingRound, touchingRound, meetingRounds})
	everySides(func(n, m int) {
		grids = append(grids, mixedGrids(n, m, 9)...)
	})
	return slices.DeleteFunc(grids, func(g []string) bool { return len(g)*len(g[0]) > chainedCells })
}

// madeTerms returns terms of all of termGrids, with many signs, some or few of them, and at most termBytes bytes.
func madeTerms() []toldTerm {
	k, terms := &termMaker{}, []toldTerm{}
	for _, g := range termGrids() {
		for _, often := range []int{2, 4, 12, 1000} {
			if text := k.term(g, often); len(text) <= termBytes {
				terms = append(terms, toldTerm{text, g})
			}
		}
	}
	return terms
}

// filledTerms returns terms of 57 to 60 bytes: such as have none to three signs in front of the letters and brackets of 15 cells, and such as have one letter alone.
func filledTerms() []toldTerm {
	k, terms := &termMaker{}, []toldTerm{}
	for _, g := range slices.Concat(mixedGrids(3, 5, 6), mixedGrids(5, 3, 6), [][]string{gridOfLetters(checkered(3, 5), 5), gridOfLetters(checkered(5, 3), 3)}) {
		inner := k.term(g, 1000000)
		terms = append(terms, toldTerm{inner, g})
		for _, signs := range []string{">", "^", "*", ">^", "^>", "*>", ">>^", "^>^", "*^>", ">>>"} {
			if told, ok := tellTerm(signs + inner); ok {
				terms = append(terms, toldTerm{signs + inner, told})
			}
		}
	}
	for _, signs := range []int{56, 57, 58, 59} {
		for _, letter := range []string{".", "r", "f"} {
			text := strings.Repeat("*>^", signs)[:signs] + letter
			told, _ := tellTerm(text)
			terms = append(terms, toldTerm{text, told})
		}
	}
	return terms
}

// allTerms returns the terms of the tests: all of at most 7 bytes, and some of each greater length.
var allTerms = sync.OnceValue(func() []toldTerm {
	terms := []toldTerm{}
	for _, text := range shortTerms(7) {
		told, _ := tellTerm(text)
		terms = append(terms, toldTerm{text, told})
	}
	return slices.Concat(terms, madeTerms(), filledTerms())
})

// chainOf returns a term of some terms with a sign between each one and those behind it.
func chainOf(terms []string, sign string) string {
	if len(terms) == 1 {
		return terms[0]
	}
	return "(" + terms[0] + sign + chainOf(terms[1:], sign) + ")"
}

// chainedTerm returns the term of a grid whose rows, each one joined cell by cell, are joined row by row.
func chainedTerm(g []string) string {
	rows := []string{}
	for _, row := range g {
		rows = append(rows, chainOf(strings.Split(row, ""), "|"))
	}
	return chainOf(rows, "-")
}

// spoiltTexts returns texts that come by taking a byte of a term away, by putting one ahead of it, and by putting another one in its place. Some of them are terms.
func spoiltTexts(term string) []string {
	texts := []string{}
	for at := range len(term) {
		texts = append(texts, term[:at]+term[at+1:])
		for _, letter := range strings.Split(".rf>^*(|-) gR\x00\xff", "") {
			texts = append(texts, term[:at]+letter+term[at:], term[:at]+letter+term[at+1:])
		}
	}
	return texts
}
