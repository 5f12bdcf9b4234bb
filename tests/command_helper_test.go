package tests

import (
	"regexp"
	"strconv"
	"strings"

	"loop.example/mirrorgrids/impl"
)

// scriptBytes is the greatest number of bytes of a script.
const scriptBytes = 600

// The rests that are told for words, as regular expressions.
const (
	restOfNone   = ""
	restOfOne    = `[0-9]{1,4}`
	restOfTwo    = `[0-9]{1,4} [0-9]{1,4}`
	restOfThree  = `[0-9]{1,4} [0-9]{1,4} [0-9]{1,4}`
	restOfLetter = `[0-9]{1,4} [.rf]`
	restOfText   = `.*`
)

// scripted is what the tests know of a script: its grid, and the one put aside.
type scripted struct {
	grid, aside []string
}

// toldWord is a word with the rest that is told for it, and what a line of it with such a rest prints, or changes. The functions of the other chapters do what they are named for in the document; their own tests tell whether they do it well.
type toldWord struct {
	word, rest string
	run        func(s *scripted, numbers []int, text string) (string, bool)
}

// newScripted returns what a script begins with.
func newScripted() *scripted {
	return &scripted{[]string{"rf", "fr"}, []string{"rf", "fr"}}
}

// take makes a grid that did not fail the one of the script.
func (s *scripted) take(g []string, ok bool) (string, bool) {
	if ok {
		s.grid = g
	}
	return "ok", ok
}

// inText returns numbers as they are printed.
func inText(numbers ...int) string {
	if len(numbers) == 0 {
		return "-"
	}
	text := ""
	for _, number := range numbers {
		text += " " + strconv.Itoa(number)
	}
	return text[1:]
}

// wordOfGrid returns the word without a rest that prints a number of the grid.
func wordOfGrid(word string, f func([]string) (int, bool)) toldWord {
	return toldWord{word, restOfNone, func(s *scripted, _ []int, _ string) (string, bool) {
		number, ok := f(s.grid)
		return inText(number), ok
	}}
}

// wordOfTwo returns the word without a rest that prints two numbers of the grid.
func wordOfTwo(word string, f func([]string) (int, int, bool)) toldWord {
	return toldWord{word, restOfNone, func(s *scripted, _ []int, _ string) (string, bool) {
		one, another, ok := f(s.grid)
		return inText(one, another), ok
	}}
}

// wordOfList returns the word without a rest that prints a list of the grid.
func wordOfList(word string, f func([]string) ([]int, bool)) toldWord {
	return toldWord{word, restOfNone, func(s *scripted, _ []int, _ string) (string, bool) {
		list, ok := f(s.grid)
		return inText(list...), ok
	}}
}

// wordOfText returns the word without a rest that prints a text of the grid.
func wordOfText(word string, f func([]string) (string, bool)) toldWord {
	return toldWord{word, restOfNone, func(s *scripted, _ []int, _ string) (string, bool) { return f(s.grid) }}
}

// wordOfChange returns the word without a rest that changes the grid.
func wordOfChange(word string, f func([]string) ([]string, bool)) toldWord {
	return toldWord{word, restOfNone, func(s *scripted, _ []int, _ string) (string, bool) { return s.take(f(s.grid)) }}
}

// wordOfBoth returns the word without a rest that joins the grid and the one put aside.
func wordOfBoth(word string, f func(g, h []string) ([]string, bool)) toldWord {
	return toldWord{word, restOfNone, func(s *scripted, _ []int, _ string) (string, bool) { return s.take(f(s.grid, s.aside)) }}
}

// wordAt returns the word with a number as its rest that prints a number.
func wordAt(word string, f func([]string, int) (int, bool)) toldWord {
	return toldWord{word, restOfOne, func(s *scripted, numbers []int, _ string) (string, bool) {
		number, ok := f(s.grid, numbers[0])
		return inText(number), ok
	}}
}

// wordListAt returns the word with a number as its rest that prints a list.
func wordListAt(word string, f func([]string, int) ([]int, bool)) toldWord {
	return toldWord{word, restOfOne, func(s *scripted, numbers []int, _ string) (string, bool) {
		list, ok := f(s.grid, numbers[0])
		return inText(list...), ok
	}}
}

// wordBetween returns the word with two numbers as its rest that prints a number of the grid.
func wordBetween(word string, f func([]string, int, int) (int, bool)) toldWord {
	return toldWord{word, restOfTwo, func(s *scripted, numbers []int, _ string) (string, bool) {
		number, ok := f(s.grid, numbers[0], numbers[1])
		return inText(number), ok
	}}
}

// toldWords returns all words.
func toldWords() []toldWord {
	return []toldWord{
		{"term", restOfText, func(s *scripted, _ []int, text string) (string, bool) { return s.take(impl.TermGrid(text)) }},
		{"grid", restOfThree, func(s *scripted, numbers []int, _ string) (string, bool) {
			return s.take(impl.GridOf(numbers[0], numbers[1], numbers[2]))
		}},
		{"put", restOfLetter, func(s *scripted, numbers []int, text string) (string, bool) {
			return s.take(impl.GridPut(s.grid, numbers[0], text[len(text)-1:]))
		}},
		wordOfChange("turn", impl.GridTurn), wordOfChange("flip", impl.GridFlip), wordOfChange("exchange", impl.GridOther), wordOfChange("climb", impl.ChangeClimb),
		{"aside", restOfNone, func(s *scripted, _ []int, _ string) (string, bool) {
			s.aside = s.grid
			return "ok", true
		}},
		wordOfBoth("beside", impl.GridBeside), wordOfBoth("under", impl.GridUnder),
		{"full", restOfTwo, func(s *scripted, numbers []int, _ string) (string, bool) {
			return s.take(impl.RoundFull(numbers[0], numbers[1]))
		}},
		{"show", restOfNone, func(s *scripted, _ []int, _ string) (string, bool) { return strings.Join(s.grid, "/"), true }},
		wordOfText("as", impl.TermOf), wordOfGrid("number", impl.GridNumber), wordOfGrid("mirrors", impl.GridCount),
		wordAt("end", impl.BeamEnd), wordListAt("way", impl.BeamWay), wordAt("length", impl.BeamLength), wordListAt("sides", impl.BeamSides), wordAt("twice", impl.BeamTwice), wordAt("first", impl.BeamFirst),
		wordOfList("pairs", impl.BeamPairs), wordOfTwo("longest", impl.BeamLongest),
		wordOfGrid("rounds", impl.RoundMany), wordOfGrid("paths", impl.RoundPaths), wordOfList("lengths", impl.RoundLengths),
		wordAt("change", impl.ChangeDelta), wordListAt("three", impl.ChangePaths), wordOfTwo("best", impl.ChangeBest),
		wordBetween("cross", impl.CrossBetween), wordOfGrid("total", impl.CrossTotal),
		wordOfGrid("chords", func(g []string) (int, bool) { return impl.CrossChords(followedPairs(g)) }),
		wordOfList("joined", impl.JoinGrid), wordBetween("aim", impl.AimGo),
		{"aimed", restOfTwo, func(s *scripted, numbers []int, _ string) (string, bool) {
			g, ok := impl.AimGrid(s.grid, numbers[0], numbers[1])
			return strings.Join(g, "/"), ok
		}},
		wordBetween("makes", func(_ []string, n, m int) (int, bool) { return impl.MakeAll(n, m) }),
		{"counts", restOfTwo, func(_ *scripted, numbers []int, _ string) (string, bool) {
			list, ok := impl.CountRounds(numbers[0], numbers[1])
			return inText(list...), ok
		}},
		{"beam", restOfOne, func(s *scripted, numbers []int, _ string) (string, bool) { return impl.ProofBeam(s.grid, numbers[0]) }},
		wordOfText("round", impl.ProofRound), wordOfText("none", impl.ProofNone),
		{"tidy", restOfText, func(_ *scripted, _ []int, text string) (string, bool) { return impl.TermTidy(text) }},
	}
}

// restAsTold returns the numbers of a rest, and whether it is as a regular expression tells.
func restAsTold(rest, told string) ([]int, bool) {
	if !regexp.MustCompile("^(?:" + told + ")$").MatchString(rest) {
		return nil, false
	}
	numbers := []int{}
	for _, digits := range regexp.MustCompile("[0-9]+").FindAllString(rest, -1) {
		number, _ := strconv.Atoi(digits)
		numbers = append(numbers, number)
	}
	return numbers, true
}

// line returns what a line prints.
func (s *scripted) line(line string, words []toldWord) string {
	for _, told := range words {
		rest, spaced := strings.CutPrefix(line, told.word+" ")
		if told.rest == restOfNone && line != told.word || told.rest != restOfNone && !spaced {
			continue
		}
		if told.rest == restOfNone {
			rest = ""
		}
		numbers, ok := restAsTold(rest, told.rest)
		if !ok {
			return "no"
		}
		if printed, ok := told.run(s, numbers, rest); ok {
			return printed
		}
		return "no"
	}
	return "what"
}

// outputs returns what lines print, and the grid behind them.
func outputs(lines []string) ([]string, []string) {
	s, words, printed := newScripted(), toldWords(), []string{}
	for _, line := range lines {
		printed = append(printed, s.line(line, words))
	}
	return printed, s.grid
}

// cellsText returns the last line for a grid.
func cellsText(g []string) string {
	return "cells " + strconv.Itoa(cellsOf(g))
}

// scriptOf returns a script of complete lines.
func scriptOf(lines ...string) string {
	script := ""
	for _, line := range lines {
		script += line + "\n"
	}
	return script
}

// linesFor returns lines that make a grid that of the script.
func linesFor(g []string) []string {
	n, m := len(g), len(g[0])
	lines := []string{"full " + inText(n, m)}
	for cell := range cellsOf(g) {
		lines = append(lines, "put "+strconv.Itoa(cell)+" "+string(letterAt(g, cell)))
	}
	return lines
}

// scriptMaker makes lines and scripts, always the same ones.
type scriptMaker struct {
	termMaker
	words []toldWord
}

func newScriptMaker(state int) *scriptMaker {
	return &scriptMaker{termMaker{uint32(state)}, toldWords()}
}

// oneOf returns one of some texts.
func (k *scriptMaker) oneOf(texts ...string) string {
	return texts[k.choose(len(texts))]
}

// numbers returns so many numbers, most of which are small.
func (k *scriptMaker) numbers(many int) string {
	numbers := []int{}
	for range many {
		numbers = append(numbers, k.choose([]int{3, 4, 9, 9, 21, 30}[k.choose(6)]))
	}
	return inText(numbers...)
}

// rest returns a rest as it is told for a word.
func (k *scriptMaker) rest(told toldWord) string {
	switch told.rest {
	case restOfOne:
		return k.numbers(1)
	case restOfTwo:
		if told.word == "full" {
			return inText(k.choose(7), k.choose(7))
		}
		if told.word == "makes" || told.word == "counts" {
			return inText(k.choose(4), k.choose(6))
		}
		return k.numbers(2)
	case restOfThree:
		n, m := 1+k.choose(3), 1+k.choose(4)
		if k.choose(9) == 0 {
			n = k.choose(7)
		}
		return inText(n, m, k.choose(min(9999, powerOf3(n*m)+1)))
	case restOfLetter:
		return k.numbers(1) + " " + k.oneOf(".", "r", "f")
	}
	return k.oneOf(".", "r", "(r|f)", "(f-.)", "((r|f)-(f|r))", "((r|(.|f))-(.|(.|r)))", "((r|.)-((.|f)-(f|r)))", ">(r|f)", "*^(r-(f-.))", "(r|(r-f))", "(r", "")
}

// spoilt returns a rest that is mostly not as told.
func (k *scriptMaker) spoilt(rest string) string {
	parts := strings.Split(rest, " ")
	at := k.choose(len(parts))
	parts[at] = k.oneOf("", "-"+parts[at], "+"+parts[at], "000"+parts[at], "0000"+parts[at], parts[at]+"x", parts[at]+" ", " "+parts[at], parts[at]+" 1", "x", "12345", "9999")
	return strings.Join(parts, " ")
}

// line returns a line. Most of them are as told.
func (k *scriptMaker) line() string {
	told := k.words[k.choose(len(k.words))]
	if k.choose(12) == 0 {
		return k.oneOf("", " ", "zzz", "Show", told.word+"s", " "+told.word, told.word+" ", told.word+" 1", told.word, told.word+"\x00")
	}
	if told.rest == restOfNone {
		return told.word
	}
	rest := k.rest(told)
	if k.choose(8) == 0 {
		rest = k.spoilt(rest)
	}
	return told.word + " " + rest
}

// lines returns lines of a script of at most so many bytes, nearly as many as fit.
func (k *scriptMaker) lines(bytes int) []string {
	lines := []string{}
	for {
		line := k.line()
		bytes -= len(line) + 1
		if bytes < 0 {
			return lines
		}
		lines = append(lines, line)
	}
}

// allLines returns the lines of so many scripts with room for some more bytes each.
func allLines(many, room int) [][]string {
	all := [][]string{}
	for number := range many {
		all = append(all, newScriptMaker(number).lines(scriptBytes-room))
	}
	return all
}
