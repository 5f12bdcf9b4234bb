package tests

import (
	"slices"
	"strconv"
	"strings"
	"sync"
	"testing"

	"loop.example/mirrorgrids/impl"
)

// wantOutput checks the whole output of a script.
func wantOutput(t *testing.T, script, want string) {
	t.Helper()
	if got := impl.Execute(script); got != want {
		t.Errorf("Execute of %q returned %q instead of %q", script, got, want)
	}
}

// wantLines checks what is printed for the lines of a script, and the number of cells told behind them.
func wantLines(t *testing.T, cells int, lines, printed []string) {
	t.Helper()
	wantOutput(t, scriptOf(lines...), scriptOf(printed...)+"cells "+strconv.Itoa(cells)+"\n")
}

// linesOf returns the lines of the output of a script but for the last one, and the last one.
func linesOf(t *testing.T, script string) ([]string, string) {
	t.Helper()
	output := impl.Execute(script)
	if !strings.HasSuffix(output, "\n") {
		t.Fatalf("Execute of %q returned %q, whose last line does not end", script, output)
	}
	lines := strings.Split(strings.TrimSuffix(output, "\n"), "\n")
	return lines[:len(lines)-1], lines[len(lines)-1]
}

// wantNothingChanged checks what is printed for a line, and that behind it the grid and the one put aside are those ahead of it.
func wantNothingChanged(t *testing.T, line, printed string) {
	t.Helper()
	lines := []string{"grid 1 2 5", "aside", "grid 1 3 7", line, "show", "beside", "show"}
	wantLines(t, 5, lines, []string{"ok", "ok", "ok", printed, "rf.", "ok", "rf.fr"})
}

// words returns those words whose rest is told so.
func words(rests ...string) []string {
	words := []string{}
	for _, told := range toldWords() {
		if slices.Contains(rests, told.rest) {
			words = append(words, told.word)
		}
	}
	return words
}

// The words are those of the chapter, each one once, and the scripts of the tests have each of them succeed, fail where it can, and be no word where it has a rest too many, or none.
func TestCommandSamples(t *testing.T) {
	if many := len(slices.Compact(slices.Sorted(slices.Values(words(restOfNone, restOfOne, restOfTwo, restOfThree, restOfLetter, restOfText))))); many != 41 {
		t.Errorf("the tests have %d words", many)
	}
	seen := map[string]int{}
	for _, lines := range allLines(400, 0) {
		printed, _ := outputs(lines)
		for at, line := range lines {
			word, _, _ := strings.Cut(line, " ")
			if printed[at] != "no" && printed[at] != "what" {
				word = "done: " + word
			} else {
				word = printed[at] + ": " + word
			}
			seen[word]++
		}
	}
	kinds := []string{"what: ", "what: zzz", "what: Show"}
	for _, told := range toldWords() {
		kinds = append(kinds, "done: "+told.word, "what: "+told.word)
		if told.rest != restOfNone {
			kinds = append(kinds, "no: "+told.word)
		}
	}
	for _, word := range []string{"beside", "under", "as", "number", "best", "round", "none"} {
		kinds = append(kinds, "no: "+word)
	}
	for _, kind := range kinds {
		if seen[kind] == 0 {
			t.Errorf("no line is of the kind: %q", kind)
		}
	}
}

// Whole scripts print, line by line, what the functions return that the document names.
func TestScripts(t *testing.T) {
	for _, lines := range allLines(400, 0) {
		printed, g := outputs(lines)
		wantOutput(t, scriptOf(lines...), scriptOf(append(printed, cellsText(g))...))
	}
}

// Promise 105: an empty script tells the 4 cells of the grid with which it begins.
func TestP105EmptyScript(t *testing.T) {
	wantOutput(t, "", "cells 4\n")
}

func TestP105Newlines(t *testing.T) {
	wantOutput(t, "\n", "what\ncells 4\n")
	wantOutput(t, "\n\n", "what\nwhat\ncells 4\n")
	wantOutput(t, strings.Repeat("\n", scriptBytes), strings.Repeat("what\n", scriptBytes)+"cells 4\n")
	wantOutput(t, "show\n\nshow\n", "rf/fr\nwhat\nrf/fr\ncells 4\n")
}

func TestP105Begin(t *testing.T) {
	wantLines(t, 4, []string{"show"}, []string{"rf/fr"})
	wantLines(t, 8, []string{"beside", "show"}, []string{"ok", "rfrf/frfr"})
	wantLines(t, 8, []string{"under", "show"}, []string{"ok", "rf/fr/rf/fr"})
}

// What follows the last newline is ignored, whatever it is.
func TestP105LastLine(t *testing.T) {
	for number, lines := range allLines(40, 60) {
		script := scriptOf(lines...)
		want := impl.Execute(script)
		for _, line := range []string{"show", "zzz", "turn", "term .", "full 1 1", "aside", " ", "\x00", "\r", "\xff\xfe", strings.Repeat("x", 60), newScriptMaker(number).line()} {
			wantOutput(t, script+line, want)
		}
	}
	for _, line := range []string{"show", "term .", "zzz", " ", strings.Repeat("x", scriptBytes), strings.Repeat("show ", scriptBytes/5)} {
		wantOutput(t, line, "cells 4\n")
	}
	wantOutput(t, "turn\nshow", "ok\ncells 4\n")
	wantOutput(t, "term .\nterm (r|f)", "ok\ncells 1\n")
}

// A script may have MaxScript bytes, those behind the last newline counted as well.
func TestP105LongScripts(t *testing.T) {
	if impl.MaxScript != scriptBytes {
		t.Errorf("MaxScript is %d", impl.MaxScript)
	}
	shows := strings.Repeat("show\n", scriptBytes/5)
	wantOutput(t, shows, strings.Repeat("rf/fr\n", scriptBytes/5)+"cells 4\n")
	for _, more := range []string{"\n", "x", "\x00", "show\n", shows} {
		wantOutput(t, shows+more, "too long\n")
	}
	wantOutput(t, shows[1:]+"x", "what\n"+strings.Repeat("rf/fr\n", scriptBytes/5-1)+"cells 4\n")
	wantOutput(t, strings.Repeat("x", scriptBytes-1)+"\n", "what\ncells 4\n")
	wantOutput(t, strings.Repeat("x", scriptBytes)+"\n", "too long\n")
	wantOutput(t, strings.Repeat("x", scriptBytes+1), "too long\n")
	wantOutput(t, strings.Repeat("\n", scriptBytes+1), "too long\n")
	wantOutput(t, strings.Repeat("ü", scriptBytes/2), "cells 4\n")
	wantOutput(t, strings.Repeat("ü", scriptBytes/2)+"ü", "too long\n")
	wantOutput(t, strings.Repeat("turn\n", 100000), "too long\n")
}

// Each line of a script has one line of the output, and none of them is empty.
func TestP105NoEmptyOutput(t *testing.T) {
	for _, lines := range allLines(100, 0) {
		printed, last := linesOf(t, scriptOf(lines...))
		if len(printed) != len(lines) || slices.Contains(printed, "") || !strings.HasPrefix(last, "cells ") {
			t.Errorf("the lines %q print %q and %q", lines, printed, last)
		}
	}
}

// The last line tells the cells of the grid of the script, not of the one put aside.
func TestP105Cells(t *testing.T) {
	everySides(func(n, m int) {
		wantLines(t, n*m, []string{"full " + inText(n, m)}, []string{"ok"})
		wantLines(t, 1, []string{"full " + inText(n, m), "aside", "term ."}, []string{"ok", "ok", "ok"})
		wantLines(t, n*m, []string{"full " + inText(n, m), "zzz", "term x", "turn"}, []string{"ok", "what", "no", "ok"})
	})
}

// Promise 106: behind complete lines, a word that is none and a term that is none print what and no, and the last line stays.
func TestP106WhatAndNo(t *testing.T) {
	for _, lines := range append(allLines(150, 12), nil) {
		printed, last := linesOf(t, scriptOf(lines...))
		wantOutput(t, scriptOf(append(lines, "zzz", "term x")...), scriptOf(append(printed, "what", "no", last)...))
	}
}

// Promise 107: behind complete lines, the same is shown twice.
func TestP107ShowTwice(t *testing.T) {
	for _, lines := range append(allLines(150, 10), nil) {
		printed, last := linesOf(t, scriptOf(lines...))
		_, g := outputs(lines)
		shown := strings.Join(g, "/")
		wantOutput(t, scriptOf(append(lines, "show", "show")...), scriptOf(append(printed, shown, shown, last)...))
	}
}

// Promise 108: a term and pairs print ok and the pairs of its grid.
func TestP108TermAndPairs(t *testing.T) {
	for _, s := range allTerms() {
		pairs := ofTerm(t, "TermPairs", impl.TermPairs, s.text)
		wantLines(t, cellsOf(s.grid), []string{"term " + s.text, "pairs"}, []string{"ok", inText(pairs...)})
	}
}

// Promise 109: the term of a grid with rounds and round print ok and the proof.
func TestP109TermAndRound(t *testing.T) {
	seen := map[bool]int{}
	for _, g := range proofGrids() {
		term, ok := impl.TermOf(g)
		if !ok {
			continue
		}
		proof, round := impl.ProofRound(g)
		seen[round]++
		if !round {
			proof = "no"
		}
		wantLines(t, cellsOf(g), []string{"term " + term, "round"}, []string{"ok", proof})
	}
	if seen[true] == 0 || seen[false] == 0 {
		t.Errorf("%v grids have rounds", seen)
	}
}

// Promise 110: tidy prints the tidy term, and the grid stays.
func TestP110Tidy(t *testing.T) {
	for _, s := range allTerms() {
		tidy := ofTerm(t, "TermTidy", impl.TermTidy, s.text)
		wantLines(t, 4, []string{"tidy " + s.text}, []string{tidy})
		wantLines(t, 4, []string{"tidy " + s.text, "show"}, []string{tidy, "rf/fr"})
	}
	for _, c := range toldTidies() {
		wantLines(t, 4, []string{"tidy " + c.text}, []string{c.tidy})
		wantLines(t, cellsOf(c.grid), []string{"term " + c.text, "show"}, []string{"ok", strings.Join(c.grid, "/")})
	}
}

// A text that is no term, or tells no grid, fails; so does the empty one.
func TestNoTermLines(t *testing.T) {
	for _, word := range []string{"term", "tidy"} {
		for _, text := range toldNoTerms() {
			if !strings.Contains(text, "\n") {
				wantNothingChanged(t, word+" "+text, "no")
			}
		}
		wantNothingChanged(t, word, "what")
		wantNothingChanged(t, word+" ", "no")
		wantNothingChanged(t, word+"  ", "no")
		wantNothingChanged(t, word+"  r", "no")
		wantNothingChanged(t, word+" r ", "no")
		wantNothingChanged(t, word+" r r", "no")
		wantNothingChanged(t, word+"r", "what")
	}
}

// A term may have 60 bytes.
func TestLongTermLines(t *testing.T) {
	for signs, want := range map[int]string{57: "f", 58: "r", 59: "f", 60: "no", 61: "no", 62: "no", 500: "no"} {
		text := strings.Repeat("*", signs) + "r"
		wantLines(t, 4, []string{"tidy " + text}, []string{want})
		if want == "no" {
			wantNothingChanged(t, "term "+text, "no")
			wantNothingChanged(t, "tidy "+text, "no")
		} else {
			wantLines(t, 1, []string{"term " + text, "show"}, []string{"ok", want})
		}
	}
}

// toldLines are lines behind those that make a grid, and what is to be printed for each of them, found without running a script.
type toldLines struct {
	begin   []string
	cells   int
	printed [][2]string
}

// toldGrids returns lines of all words that tell of the grid.
func toldGrids() []toldLines {
	return []toldLines{
		{nil, 4, [][2]string{
			{"show", "rf/fr"}, {"as", "((r|f)-(f|r))"}, {"number", "52"}, {"mirrors", "4"},
			{"end 0", "7"}, {"end 7", "0"}, {"way 0", "0"}, {"way 1", "1"}, {"length 0", "1"}, {"sides 0", "0 0 1 0"}, {"sides 2", "0 0 0 1"}, {"sides 4", "1 0 0 0"}, {"sides 7", "0 1 0 0"}, {"twice 0", "0"}, {"first 3", "3"},
			{"pairs", "7 2 1 4 3 6 5 0"}, {"longest", "0 1"}, {"rounds", "1"}, {"paths", "5"}, {"lengths", "4"},
			{"change 0", "-1"}, {"change 3", "-1"}, {"three 0", "4 5 4"}, {"three 1", "4 4 5"}, {"best", "0 4"},
			{"cross 0 1", "0"}, {"cross 0 7", "no"}, {"cross 0 0", "no"}, {"chords", "0"}, {"total", "0"}, {"joined", "7 2 1 4 3 6 5 0"},
			{"aim 0 1", "2"}, {"aim 0 7", "0"}, {"aimed 0 1", "../fr"}, {"aimed 0 7", "rf/fr"},
			{"beam 0", "beam d"}, {"beam 7", "beam r"}, {"round", "round 0 urdl"}, {"none", "no"}, {"climb", "ok"}, {"show", "rf/fr"},
		}},
		{[]string{"grid 2 2 25"}, 4, [][2]string{
			{"show", "rf/f."}, {"as", "((r|f)-(f|.))"}, {"number", "25"}, {"mirrors", "3"},
			{"end 3", "4"}, {"way 3", "3 2 0 1 3"}, {"way 4", "3 1 0 2 3"}, {"length 3", "5"}, {"sides 3", "1 1 1 2"}, {"twice 3", "1"}, {"twice 0", "0"}, {"first 3", "2"}, {"first 4", "1"},
			{"pairs", "7 2 1 4 3 6 5 0"}, {"longest", "3 5"}, {"rounds", "0"}, {"paths", "4"}, {"lengths", "-"},
			{"change 0", "0"}, {"change 3", "no"}, {"three 3", "4 5 4"}, {"three 0", "4 4 4"}, {"best", "0 4"},
			{"cross 0 1", "0"}, {"cross 0 3", "0"}, {"cross 3 4", "no"}, {"chords", "0"}, {"total", "0"}, {"joined", "7 2 1 4 3 6 5 0"},
			{"beam 3", "beam llurd"}, {"round", "no"}, {"none", "lengths 1 1 5 1"}, {"climb", "ok"}, {"show", "rf/f."},
			{"put 3 r", "ok"}, {"round", "round 0 urdl"},
		}},
		{[]string{"grid 2 2 0"}, 4, [][2]string{
			{"show", "../.."}, {"as", "((.|.)-(.|.))"}, {"number", "0"}, {"mirrors", "0"},
			{"end 0", "5"}, {"way 0", "0 2"}, {"length 0", "2"}, {"sides 0", "0 0 2 0"}, {"sides 3", "0 0 0 2"}, {"twice 0", "0"}, {"first 0", "no"},
			{"pairs", "5 4 7 6 1 0 3 2"}, {"longest", "0 2"}, {"rounds", "0"}, {"paths", "4"}, {"lengths", "-"},
			{"change 0", "no"}, {"three 0", "4 4 4"}, {"best", "no"}, {"cross 0 1", "0"}, {"cross 0 2", "1"}, {"cross 0 5", "no"}, {"chords", "4"}, {"total", "4"}, {"joined", "5 4 7 6 1 0 3 2"},
			{"aim 0 5", "0"}, {"aim 0 1", "2"}, {"aim 0 7", "1"}, {"aimed 0 1", "fr/.."}, {"aimed 0 7", "r./.."},
			{"beam 0", "beam dd"}, {"round", "no"}, {"none", "lengths 2 2 2 2"}, {"climb", "ok"}, {"show", "../.."},
		}},
		{[]string{"grid 1 3 21"}, 3, [][2]string{
			{"show", ".rf"}, {"as", "(.|(r|f))"}, {"number", "21"}, {"mirrors", "2"}, {"pairs", "6 7 3 2 5 4 0 1"}, {"joined", "6 7 3 2 5 4 0 1"},
			{"way 1", "1 0"}, {"way 7", "0 1"}, {"sides 7", "0 2 0 0"}, {"longest", "1 2"}, {"first 0", "no"}, {"first 7", "1"}, {"chords", "1"}, {"total", "1"}, {"cross 0 1", "1"}, {"cross 6 7", "1"}, {"none", "lengths 1 2 1 2"},
			{"turn", "ok"}, {"show", "./f/r"}, {"turn", "ok"}, {"show", "fr."}, {"turn", "ok"}, {"show", "r/f/."}, {"turn", "ok"}, {"show", ".rf"},
			{"flip", "ok"}, {"show", "rf."}, {"exchange", "ok"}, {"show", "fr."}, {"flip", "ok"}, {"show", ".fr"}, {"number", "15"}, {"climb", "ok"}, {"show", ".fr"},
		}},
		{[]string{"term ((f|f)-(f|r))"}, 4, [][2]string{
			{"show", "ff/fr"}, {"rounds", "0"}, {"change 0", "1"}, {"change 1", "0"}, {"best", "0 5"}, {"three 0", "4 5 4"}, {"climb", "ok"}, {"show", "rf/fr"}, {"best", "0 4"}, {"rounds", "1"},
		}},
		{[]string{"full 2 5"}, 10, [][2]string{
			{"show", "rfrfr/frfrf"}, {"rounds", "2"}, {"lengths", "4 4"}, {"paths", "9"}, {"mirrors", "10"}, {"aim 0 1", "no"}, {"aimed 0 1", "no"}, {"round", "round 0 urdl"},
		}},
	}
}

// wantTold checks what is printed for told lines.
func wantTold(t *testing.T, c toldLines) {
	t.Helper()
	lines, printed := slices.Clone(c.begin), slices.Repeat([]string{"ok"}, len(c.begin))
	for _, told := range c.printed {
		lines, printed = append(lines, told[0]), append(printed, told[1])
	}
	if len(scriptOf(lines...)) > scriptBytes {
		t.Fatalf("the lines behind %q are too long", c.begin)
	}
	wantLines(t, c.cells, lines, printed)
}

// Of each word a line is told that succeeds.
func TestWordsTold(t *testing.T) {
	seen := map[string]bool{}
	for _, c := range slices.Concat(toldGrids(), toldChanges()) {
		wantTold(t, c)
		for _, told := range c.printed {
			word, _, _ := strings.Cut(told[0], " ")
			seen[word] = seen[word] || told[1] != "no"
		}
	}
	for _, told := range toldWords() {
		if !seen[told.word] {
			t.Errorf("no line is told of the word %s", told.word)
		}
	}
}

// toldChanges returns lines of the words that make or change grids, or tell nothing of the grid.
func toldChanges() []toldLines {
	return []toldLines{
		{nil, 4, [][2]string{
			{"put 0 .", "ok"}, {"show", ".f/fr"}, {"put 3 f", "ok"}, {"show", ".f/ff"}, {"put 1 r", "ok"}, {"show", ".r/ff"}, {"put 0000 f", "ok"}, {"show", "fr/ff"}, {"put 02 .", "ok"}, {"show", "fr/.f"}, {"put 2 .", "ok"}, {"show", "fr/.f"},
			{"put 4 r", "no"}, {"put 9999 r", "no"}, {"show", "fr/.f"}, {"beside", "ok"}, {"show", "frrf/.ffr"}, {"put 7 .", "ok"}, {"show", "frrf/.ff."}, {"full 2 2", "ok"}, {"show", "rf/fr"},
		}},
		{nil, 9, [][2]string{
			{"grid 3 3 9999", "ok"}, {"show", "..r/r.f/rrr"}, {"number", "9999"}, {"grid 0001 0002 0005", "ok"}, {"show", "fr"}, {"number", "5"}, {"grid 2 1 5", "ok"}, {"show", "f/r"},
			{"grid 1 2 9", "no"}, {"grid 0 1 0", "no"}, {"grid 1 0 0", "no"}, {"grid 6 1 0", "no"}, {"grid 1 6 0", "no"}, {"show", "f/r"}, {"grid 5 5 1", "ok"}, {"number", "no"}, {"as", "no"}, {"mirrors", "1"}, {"grid 3 3 9999", "ok"},
		}},
		{nil, 6, [][2]string{
			{"full 1 1", "ok"}, {"show", "r"}, {"full 3 2", "ok"}, {"show", "rf/fr/rf"}, {"full 6 1", "no"}, {"full 1 6", "no"}, {"full 0 1", "no"}, {"full 1 0", "no"}, {"full 0003 02", "ok"}, {"show", "rf/fr/rf"},
		}},
		{nil, 2, [][2]string{
			{"term (r|.)", "ok"}, {"show", "r."}, {"term >(r|.)", "ok"}, {"show", "f/."}, {"as", "(f-.)"}, {"tidy >(r|f)", "(f-r)"}, {"show", "f/."}, {"tidy ^((r|.)-(f|r))", "((.|f)-(f|r))"}, {"show", "f/."},
		}},
		{[]string{"term (r|.)"}, 3, [][2]string{
			{"aside", "ok"}, {"beside", "ok"}, {"show", "r.r."}, {"beside", "no"}, {"under", "no"}, {"show", "r.r."}, {"term f", "ok"}, {"beside", "ok"}, {"show", "fr."}, {"aside", "ok"}, {"under", "ok"}, {"show", "fr./fr."}, {"under", "ok"}, {"show", "fr./fr./fr."}, {"beside", "no"}, {"term .", "ok"}, {"beside", "ok"}, {"beside", "no"}, {"term (.|(.|f))", "ok"}, {"aside", "ok"}, {"turn", "ok"}, {"beside", "no"}, {"under", "no"}, {"show", "././r"},
		}},
		{nil, 4, [][2]string{
			{"makes 1 1", "3"}, {"makes 1 6", "no"}, {"makes 3 3", "no"}, {"makes 0 1", "no"}, {"makes 6 1", "no"}, {"counts 1 1", "2"}, {"counts 2 2", "15 1"}, {"counts 2 4", "209 46 1"}, {"counts 1 3", "8"}, {"counts 2 5", "no"}, {"counts 0 1", "no"}, {"counts 6 1", "no"}, {"show", "rf/fr"},
		}},
	}
}

// rightRests returns a rest for each word with numbers or a letter that succeeds for the grid "rf.".
func rightRests() map[string]string {
	rests := map[string]string{"grid": "1 3 7", "put": "1 f", "makes": "1 3", "counts": "1 3", "full": "1 3", "cross": "0 1", "aim": "0 1", "aimed": "0 1"}
	for _, word := range words(restOfOne) {
		rests[word] = "1"
	}
	return rests
}

// Each word has its rest, or none: with a space where none is told, or none where one is told, the line is another one.
func TestRestOrNone(t *testing.T) {
	for _, word := range words(restOfNone) {
		for _, rest := range []string{"", " ", "1", "0 1", "r", "x", word, "0"} {
			wantNothingChanged(t, word+" "+rest, "what")
		}
	}
	for _, word := range words(restOfOne, restOfTwo, restOfThree, restOfLetter, restOfText) {
		wantNothingChanged(t, word, "what")
		wantNothingChanged(t, word+" ", "no")
		wantNothingChanged(t, word+"  ", "no")
	}
}

// Numbers of one digit to four are the same with leading zeros, and more digits are no number.
func TestNumbersOfLines(t *testing.T) {
	for word, rest := range rightRests() {
		begin := []string{"grid 1 3 7"}
		printed, last := linesOf(t, scriptOf(append(begin, word+" "+rest, "show")...))
		if printed[1] == "no" || printed[1] == "what" {
			t.Errorf("%s %s prints %q", word, rest, printed[1])
		}
		for at, part := range strings.Split(rest, " ") {
			if len(part) != 1 || strings.Trim(part, "0123456789") != "" {
				continue
			}
			for _, zeros := range []string{"0", "00", "000"} {
				wantOutput(t, scriptOf(append(begin, word+" "+withPart(rest, at, zeros+part), "show")...), scriptOf(append(printed, last)...))
			}
			for _, zeros := range []string{"0000", "00000", strings.Repeat("0", 100)} {
				wantNothingChanged(t, word+" "+withPart(rest, at, zeros+part), "no")
			}
		}
	}
}

// withPart returns a rest with another text in place of one of its parts.
func withPart(rest string, at int, part string) string {
	parts := strings.Split(rest, " ")
	parts[at] = part
	return strings.Join(parts, " ")
}

// What is no number, too few of them, too many, and spaces that are not just one between fail.
func TestNoNumbersOfLines(t *testing.T) {
	for word, rest := range rightRests() {
		for _, line := range []string{rest + " ", " " + rest, "  " + rest, rest + "  ", rest + " 1", "1 " + rest, rest + " " + rest, rest + " x", rest + "\t", rest + "\r", rest + "\x00", "\t" + rest, rest + ",", "x", "r", "-", "?", "\xff"} {
			wantNothingChanged(t, word+" "+line, "no")
		}
		if parts := strings.Split(rest, " "); len(parts) > 1 {
			wantNothingChanged(t, word+" "+strings.Join(parts, "  "), "no")
			wantNothingChanged(t, word+" "+strings.Join(parts, ","), "no")
			wantNothingChanged(t, word+" "+strings.Join(parts, "\t"), "no")
			wantNothingChanged(t, word+" "+strings.Join(parts, ""), "no")
			wantNothingChanged(t, word+" "+strings.Join(parts[1:], " "), "no")
			wantNothingChanged(t, word+" "+strings.Join(parts[:len(parts)-1], " "), "no")
		}
		for at, part := range strings.Split(rest, " ") {
			for _, wrong := range []string{"", "+" + part, "-" + part, "--" + part, part + "+", part + "-", part + "x", "x" + part, part + ".", part + ".0", "0x" + part, "0_" + part, "1e0", "12345", "10000", "9999999999999999999999", "١", "x"} {
				wantNothingChanged(t, word+" "+withPart(rest, at, wrong), "no")
			}
		}
	}
}

// Numbers that are none of a port or a cell, or of rows and columns, fail.
func TestOtherNumbersOfLines(t *testing.T) {
	for word, rest := range rightRests() {
		for at := range strings.Split(rest, " ") {
			if word != "put" || at == 0 {
				wantNothingChanged(t, word+" "+withPart(rest, at, "9999"), "no")
				wantNothingChanged(t, word+" "+withPart(rest, at, "27"), "no")
			}
		}
	}
	for _, line := range []string{"end 8", "way 8", "length 8", "sides 8", "twice 8", "first 8", "beam 8", "change 3", "three 3", "put 3 r", "cross 0 8", "cross 8 0", "cross 1 1", "cross 0 7", "aim 0 8", "aim 8 0", "aim 1 1", "aimed 0 8", "aimed 8 0", "aimed 1 1"} {
		wantNothingChanged(t, line, "no")
	}
	for _, line := range []string{"change 2", "first 2", "grid 1 3 27", "grid 0 3 0", "full 0 3", "full 6 1", "makes 2 4", "counts 2 5"} {
		wantNothingChanged(t, line, "no")
	}
}

// put takes one letter of three.
func TestPutLetters(t *testing.T) {
	for cell := range 3 {
		for _, letter := range []string{".", "r", "f"} {
			g := withLetter([]string{"rf."}, cell, letter[0])
			wantLines(t, 3, []string{"grid 1 3 7", "put " + strconv.Itoa(cell) + " " + letter, "show"}, []string{"ok", "ok", g[0]})
		}
		for letter := range 256 {
			text := string([]byte{byte(letter)})
			if text != "\n" && !strings.Contains(".rf", text) {
				wantNothingChanged(t, "put "+strconv.Itoa(cell)+" "+text, "no")
			}
		}
		for _, letters := range []string{"", " ", "rr", "r ", " r", "rf", ".r", "..", "r f", "r.f", ".rf", "ü", "0", "r0", "R", "r\x00", "empty"} {
			wantNothingChanged(t, "put "+strconv.Itoa(cell)+" "+letters, "no")
		}
		wantNothingChanged(t, "put "+strconv.Itoa(cell), "no")
		wantNothingChanged(t, "put r "+strconv.Itoa(cell), "no")
		wantNothingChanged(t, "put "+strconv.Itoa(cell)+"r", "no")
		wantNothingChanged(t, "put "+strconv.Itoa(cell)+" "+strconv.Itoa(cell)+" r", "no")
	}
	wantNothingChanged(t, "put r", "no")
	wantNothingChanged(t, "put  r", "no")
	wantNothingChanged(t, "put   r", "no")
}

// Other words are no words: those of other functions, and such as are nearly one, among them those with a capital letter.
func TestOtherWords(t *testing.T) {
	for _, line := range []string{"", " ", "  ", "zzz", "what", "no", "ok", "cells", "too long", "GridTurn", "turns", "part 0 0 0 0", "gridfull", "cut", "meets 0 1", "most 2 2", "at 0", "least", "in", "same r r", "size r", "fit", "ask", "-", "1", "0 1", "r", "\x00", "\r", "\t", "\xff", "ü"} {
		wantNothingChanged(t, line, "what")
	}
	rests := rightRests()
	rests["term"], rests["tidy"] = "(f-.)", "(f-.)"
	for _, told := range toldWords() {
		word, rest := told.word, ""
		if told.rest != restOfNone {
			rest = " " + rests[word]
		}
		for _, other := range []string{strings.ToUpper(word), strings.ToUpper(word[:1]) + word[1:], word[:len(word)-1] + strings.ToUpper(word[len(word)-1:]), " " + word, "\t" + word, word + "\t", word + "\r", word + "\x00", "\x00" + word, word + ".", word + "x", "x" + word, word + word, word + "\xff", word + ":", word + "\u00a0"} {
			wantNothingChanged(t, other+rest, "what")
		}
		if told.rest != restOfNone {
			wantNothingChanged(t, word+"\t"+rest[1:], "what")
			wantNothingChanged(t, word+rest[1:], "what")
		}
	}
}

// Words that tell of the grid change neither it nor the one put aside, whether or not they fail.
func TestWordsThatTell(t *testing.T) {
	rests, changing := rightRests(), []string{"term", "grid", "put", "turn", "flip", "exchange", "aside", "beside", "under", "climb", "full"}
	rests["tidy"] = "(f-.)"
	for _, told := range toldWords() {
		if slices.Contains(changing, told.word) {
			continue
		}
		line := told.word
		if told.rest != restOfNone {
			line += " " + rests[told.word]
		}
		printed, _ := outputs([]string{"grid 1 3 7", line})
		wantNothingChanged(t, line, printed[1])
	}
}

// Grids that don't fit, or that would have too many rows or columns, are not joined.
func TestGridsThatDoNotFit(t *testing.T) {
	everySides(func(n, m int) {
		everySides(func(k, l int) {
			begin := []string{"full " + inText(k, l), "aside", "full " + inText(n, m)}
			g, h := gridOfLetters(checkered(n, m), m), gridOfLetters(checkered(k, l), l)
			for word, both := range map[string][]string{"beside": besideTexts(g, h), "under": underTexts(g, h)} {
				printed, shown := "ok", both
				if both == nil {
					printed, shown = "no", g
				}
				wantLines(t, cellsOf(shown), append(begin, word, "show"), []string{"ok", "ok", "ok", printed, strings.Join(shown, "/")})
			}
		})
	})
}

// The one put aside stays when the grid is changed, and the grid when it is put aside.
func TestAside(t *testing.T) {
	for _, line := range []string{"turn", "flip", "exchange", "climb", "term f", "grid 1 1 0", "put 0 .", "full 3 3", "beside", "under"} {
		lines := []string{"grid 2 2 75", "aside", line, "full 2 2", "beside", "show", "full 2 2", "under", "show"}
		wantLines(t, 8, lines, []string{"ok", "ok", "ok", "ok", "ok", "rf.r/frff", "ok", "ok", "rf/fr/.r/ff"})
	}
	wantLines(t, 4, []string{"turn", "aside", "show", "turn", "aside", "show"}, []string{"ok", "ok", "rf/fr", "ok", "ok", "rf/fr"})
	wantLines(t, 2, []string{"term r", "aside", "term f", "aside", "term .", "beside", "show"}, []string{"ok", "ok", "ok", "ok", "ok", "ok", ".f"})
}

// Lists without numbers, texts and grids of all sizes are printed.
func TestPrinted(t *testing.T) {
	for _, g := range mixedSizes() {
		lines := append(linesFor(g), "show", "lengths", "pairs", "none", "mirrors")
		printed := slices.Repeat([]string{"ok"}, len(lines)-5)
		none, ok := impl.ProofNone(g)
		if !ok {
			none = "no"
		}
		printed = append(printed, strings.Join(g, "/"), inText(draw(g).lengths...), inText(followedPairs(g)...), none, strconv.Itoa(mirrorsOf(g)))
		wantLines(t, cellsOf(g), lines, printed)
	}
	wantLines(t, 1, []string{"term .", "lengths"}, []string{"ok", "-"})
	wantLines(t, 4, []string{"lengths"}, []string{"4"})
}

// Scripts at the same time print the same, and so do later ones, whatever failed ahead of them.
func TestScriptsAtOnce(t *testing.T) {
	var calls sync.WaitGroup
	for range 8 {
		calls.Go(func() {
			for _, c := range slices.Concat(toldGrids(), toldChanges()) {
				wantOutput(t, "turn\nterm .\naside\nzzz\nterm x\nend x\n", "ok\nok\nok\nwhat\nno\nno\ncells 1\n")
				wantTold(t, c)
				wantOutput(t, strings.Repeat("turn\n", 121), "too long\n")
			}
		})
	}
	calls.Wait()
}
