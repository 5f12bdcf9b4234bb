package tests

import (
	"slices"
	"strconv"
	"strings"
)

// toldRound is a proof of a round that the tests made: it tells the round that goes into a cell in a direction.
type toldRound struct {
	text      string
	cell, d   int
	manyCells int
}

// Grids whose rounds lie behind many other cells.
var (
	lateRound  = []string{".....", ".....", ".....", "...rf", "...fr"}
	lateRounds = []string{".....", ".....", "rf.rf", "fr.fr", "....."}
	longFirst  = []string{"r.f..", ".....", "f.r..", "...rf", "...fr"}
	shortFirst = []string{"rf...", "fr...", "..r.f", ".....", "..f.r"}
)

// proofGrids returns grids of all numbers of rows and columns, among them many with rounds of each kind, and some whose least cell of a round has a number of two digits.
func proofGrids() [][]string {
	return append(roundGrids(), lateRound, lateRounds, longFirst, shortFirst, crossedRounds)
}

// fewProofGrids returns every so manyth of these grids, and all that are told by name.
func fewProofGrids(each int) [][]string {
	grids := proofGrids()
	few := slices.Clone(grids[len(grids)-11:])
	for at := 0; at < len(grids)-11; at += each {
		few = append(few, grids[at])
	}
	return few
}

// sideLetters returns the letters of directions, told by 0 upwards, 1 rightwards, 2 downwards and 3 leftwards.
func sideLetters(sides []int) string {
	letters := ""
	for _, side := range sides {
		letters += []string{"u", "r", "d", "l"}[side]
	}
	return letters
}

// beamText returns the proof of the beam of a port.
func beamText(g []string, port int) string {
	return "beam " + sideLetters(follow(g, port).sides)
}

// ringSides returns the directions in which the cells of a round are entered, each one told by where the cell ahead of it lies.
func ringSides(m int, cells []int) []int {
	sides := []int{}
	for at, cell := range cells {
		ahead := cells[(at+len(cells)-1)%len(cells)]
		sides = append(sides, slices.Index([]int{-m, 1, m, -1}, cell-ahead))
	}
	return sides
}

// roundText returns the proof of the round that goes into a cell in a direction, or an empty text if this is a beam.
func roundText(g []string, cell, d int) string {
	cells := ring(g, cell, d)
	if cells == nil {
		return ""
	}
	return "round " + strconv.Itoa(cell) + " " + sideLetters(ringSides(len(g[0]), cells))
}

// allRoundTexts returns all proofs of rounds of a grid, in the order of their cells and directions.
func allRoundTexts(g []string) []toldRound {
	rounds := []toldRound{}
	for cell := range cellsOf(g) {
		for d := range 4 {
			if text := roundText(g, cell, d); text != "" {
				rounds = append(rounds, toldRound{text, cell, d, len(ring(g, cell, d))})
			}
		}
	}
	return rounds
}

// roundsByText returns the number of cells for each proof of a round of a grid.
func roundsByText(g []string) map[string]int {
	byText := map[string]int{}
	for _, round := range allRoundTexts(g) {
		byText[round.text] = round.manyCells
	}
	return byText
}

// beamLengths returns the lengths of the beams of a grid, in the order of their lesser ports.
func beamLengths(g []string) []int {
	lengths := []int{}
	for port := range portsOf(g) {
		if beam := follow(g, port); port < beam.end {
			lengths = append(lengths, beam.length())
		}
	}
	return lengths
}

// lengthsText returns the text that tells lengths.
func lengthsText(lengths []int) string {
	text := "lengths"
	for _, length := range lengths {
		text += " " + strconv.Itoa(length)
	}
	return text
}

// withWord returns a text with another word ahead.
func withWord(word, text string) string {
	_, rest, _ := strings.Cut(text, " ")
	return word + " " + rest
}

// withZeros returns a text with a zero ahead of each number in turn, and of all of them.
func withZeros(text string) []string {
	parts := strings.Split(text, " ")
	texts, all := []string{}, slices.Clone(parts)
	for at, part := range parts {
		if _, err := strconv.Atoi(part); err == nil {
			one := slices.Clone(parts)
			one[at], all[at] = "0"+part, "0"+part
			texts = append(texts, strings.Join(one, " "))
		}
	}
	return append(texts, strings.Join(all, " "))
}

// spoiltInBytes returns texts that come by taking a byte away, by putting one ahead of it, behind all or in its place, and by exchanging it with the next one.
func spoiltInBytes(text string) []string {
	const bytes = "urdlfxUL 0123456789+-_.,\t\n\r\x00\xff"
	texts := []string{}
	for at := range len(text) {
		texts = append(texts, text[:at]+text[at+1:], text[:at]+text[at:at+1]+text[at:], text[:at])
		for letter := range len(bytes) {
			texts = append(texts, text[:at]+bytes[letter:letter+1]+text[at:], text[:at]+bytes[letter:letter+1]+text[at+1:])
		}
		if at > 0 {
			texts = append(texts, text[:at-1]+text[at:at+1]+text[at-1:at]+text[at+1:])
		}
	}
	for letter := range len(bytes) {
		texts = append(texts, text+bytes[letter:letter+1])
	}
	return texts
}

// spoiltProofs returns texts that are like a proof, only few of which are one.
func spoiltProofs(text string) []string {
	texts := []string{
		"", " ", "  ", text + " ", " " + text, text + "  ", " " + text + " ", text + "\n", text + "\x00", text + " " + text, text + text,
		strings.ReplaceAll(text, " ", "  "), strings.ReplaceAll(text, " ", ""), strings.ReplaceAll(text, " ", "\t"), strings.ReplaceAll(text, " ", ","),
		strings.ToUpper(text), strings.Join(strings.Split(text, ""), " "), strings.Repeat(" ", 500) + text, text + strings.Repeat("u", 500),
	}
	for _, word := range []string{"", "beam", "round", "lengths", "Beam", "Round", "Lengths", "beams", "rounds", "length", "none", "way", "\xff"} {
		texts = append(texts, withWord(word, text), word)
	}
	return slices.Concat(texts, withZeros(text), spoiltInBytes(text))
}
