package tests

import (
	"slices"
	"strconv"
	"strings"
	"sync"
	"testing"

	"loop.example/mirrorgrids/impl"
)

// termName tells a call for texts in what a test says.
func termName(call string, texts ...string) string {
	for _, text := range texts {
		call += " " + strconv.Quote(text)
	}
	return call
}

// ofTerm calls a function that must succeed for a term.
func ofTerm[T any](t *testing.T, call string, f func(string) (T, bool), text string) T {
	t.Helper()
	got, ok := f(text)
	if !ok {
		t.Fatalf("%s fails", termName(call, text))
	}
	return got
}

func wantText(t *testing.T, what, got string, ok bool, want string) {
	t.Helper()
	if !ok || got != want {
		t.Errorf("%s returned %q, %v instead of %q", what, got, ok, want)
	}
}

func wantTermIn(t *testing.T, text string, want bool) {
	t.Helper()
	if got := impl.TermIn(text); got != want {
		t.Errorf("%s is %v", termName("TermIn", text), got)
	}
}

// wantSame checks what TermSame reports for two texts, and for both exchanged.
func wantSame(t *testing.T, one, another string, want bool) {
	t.Helper()
	if impl.TermSame(one, another) != want || impl.TermSame(another, one) != want {
		t.Errorf("%s is not %v, or not exchanged", termName("TermSame", one, another), want)
	}
}

// wantNoTerm checks that everything fails for a text.
func wantNoTerm(t *testing.T, text string) {
	t.Helper()
	wantTermIn(t, text, false)
	g, ok := impl.TermGrid(text)
	wantNoGrid(t, termName("TermGrid", text), g, ok)
	rows, columns, ok := impl.TermSize(text)
	wantNoNumber(t, termName("the rows of TermSize", text), rows, ok)
	wantNoNumber(t, termName("the columns of TermSize", text), columns, ok)
	pairs, ok := impl.TermPairs(text)
	wantNoNumbers(t, termName("TermPairs", text), pairs, ok)
	rounds, ok := impl.TermRounds(text)
	wantNoNumber(t, termName("TermRounds", text), rounds, ok)
	if tidy, ok := impl.TermTidy(text); ok || tidy != "" {
		t.Errorf("%s returned %q, %v instead of failing", termName("TermTidy", text), tidy, ok)
	}
	for _, other := range []string{text, ".", "r", ">f", "(.|r)", "(r-f)"} {
		wantSame(t, text, other, false)
	}
}

// toldTidy is a term with the grid that is told by it, and its tidy term.
type toldTidy struct {
	text string
	grid []string
	tidy string
}

// toldTidies returns terms with what was worked out by hand.
func toldTidies() []toldTidy {
	return []toldTidy{
		{".", []string{"."}, "."}, {"r", []string{"r"}, "r"}, {"f", []string{"f"}, "f"},
		{">.", []string{"."}, "."}, {"^.", []string{"."}, "."}, {"*.", []string{"."}, "."},
		{">r", []string{"f"}, "f"}, {"^r", []string{"f"}, "f"}, {"*r", []string{"f"}, "f"},
		{">f", []string{"r"}, "r"}, {"^f", []string{"r"}, "r"}, {"*f", []string{"r"}, "r"},
		{">>r", []string{"r"}, "r"}, {">^r", []string{"r"}, "r"}, {"*>f", []string{"f"}, "f"}, {"^*.", []string{"."}, "."},
		{">^*r", []string{"f"}, "f"}, {"*^>f", []string{"r"}, "r"}, {">>>>r", []string{"r"}, "r"},
		{"(r|.)", []string{"r."}, "(r|.)"}, {"(r-.)", []string{"r", "."}, "(r-.)"},
		{"(.|(r|f))", []string{".rf"}, "(.|(r|f))"}, {"((.|r)|f)", []string{".rf"}, "((.|r)|f)"},
		{"(>r|*f)", []string{"fr"}, "(f|r)"}, {"(^.-^^f)", []string{".", "f"}, "(.-f)"},
		{"((r|.)-(f|r))", []string{"r.", "fr"}, "((r|.)-(f|r))"},
		{">((r|.)-(f|r))", []string{"rf", "f."}, "((r-f)|(f-.))"},
		{">((r-f)|(.-r))", []string{"rf", "f."}, "((r|f)-(f|.))"},
		{"^((r|.)-(f|r))", []string{".f", "fr"}, "((.|f)-(f|r))"},
		{"*((r|.)-(f|r))", []string{"f.", "rf"}, "((f|.)-(r|f))"},
		{"(>(r|f)-*(f-.))", []string{"f", "r", "r", "."}, "((f-r)-(r-.))"},
		{"(>(r|.)|(f-.))", []string{"ff", ".."}, "((f-.)|(f-.))"},
		{">(>(r|f)|^((.-r)|(r-f)))", []string{"fr", "fr", "r."}, "((f|r)-((f|r)-(r|.)))"},
		{"^(*(r-f)|^((.-r)|(r-f)))", []string{".rr", "rff"}, "(((.-r)|(r-f))|(r-f))"},
	}
}

// toldSigns returns terms of signs in front of signs and brackets, worked out by hand.
func toldSigns() []toldTidy {
	row, column := "(r|.)", "(r-.)"
	return []toldTidy{
		{">" + row, []string{"f", "."}, "(f-.)"}, {"^" + row, []string{".f"}, "(.|f)"}, {"*" + row, []string{"f."}, "(f|.)"},
		{">>" + row, []string{".r"}, "(.|r)"}, {"^^" + row, []string{"r."}, row}, {"**" + row, []string{"r."}, row},
		{">^" + row, []string{".", "r"}, "(.-r)"}, {"^>" + row, []string{"r", "."}, column},
		{">*" + row, []string{"r", "."}, column}, {"*>" + row, []string{"r", "."}, column},
		{"^*" + row, []string{".r"}, "(.|r)"}, {"*^" + row, []string{".r"}, "(.|r)"},
		{">>>" + row, []string{".", "f"}, "(.-f)"}, {">^*" + row, []string{".", "f"}, "(.-f)"}, {">*^" + row, []string{".", "f"}, "(.-f)"},
		{"^>*" + row, []string{"f", "."}, "(f-.)"}, {"^*>" + row, []string{"f", "."}, "(f-.)"}, {"*^>" + row, []string{"f", "."}, "(f-.)"},
		{"*>^" + row, []string{".", "f"}, "(.-f)"}, {">^>" + row, []string{".f"}, "(.|f)"}, {"^>^" + row, []string{".", "f"}, "(.-f)"},
		{">" + column, []string{".f"}, "(.|f)"}, {"^" + column, []string{"f", "."}, "(f-.)"}, {"*" + column, []string{"f", "."}, "(f-.)"},
		{">>" + column, []string{".", "r"}, "(.-r)"}, {"^^" + column, []string{"r", "."}, column}, {"**" + column, []string{"r", "."}, column},
		{">^" + column, []string{".r"}, "(.|r)"}, {"^>" + column, []string{"r."}, row},
		{">*" + column, []string{".r"}, "(.|r)"}, {"*>" + column, []string{".r"}, "(.|r)"},
		{"^*" + column, []string{"r", "."}, column}, {"*^" + column, []string{"r", "."}, column},
		{">>>" + column, []string{"f."}, "(f|.)"}, {">^*" + column, []string{".f"}, "(.|f)"}, {"^>*" + column, []string{"f."}, "(f|.)"},
		{"*>^" + column, []string{".f"}, "(.|f)"}, {">^>" + column, []string{"f", "."}, "(f-.)"}, {"^>^" + column, []string{"f."}, "(f|.)"},
	}
}

// toldNoTerms returns texts that are no terms, or tell no grid.
func toldNoTerms() []string {
	return []string{
		"", " ", "x", "g", "R", "F", "1", ",", "/", "?", "\x00", "\n", "\xff", "ü", "r\n", "\nr", " r", "r ", ".\x00",
		">", "^", "*", ">>", "*^>", "r>", ">r>", ".*", "f^",
		"(", ")", "()", "(|)", "(-)", "|", "-", "r|f", "r-f", "|r", "-r", "r|", ".-",
		"(r)", "((r))", "(r|)", "(|r)", "(r-)", "(-r)", "(r|f", "r|f)", "(r|f|.)", "(r-f-.)", "(r||f)", "(r|-f)", "(r+f)", "(r f)", "(r/f)", "(r |f)", "(r| f)", "( r|f)",
		"[r|f]", "{r|f}", "(r|f]", "(r>f)", "(r^f)", "(r*f)", "(r|f>)", "(>|f)", "(r|>)", ">()", "(rf|f)", "(r|ff)",
		"((r|f)", "((r|f)-(f|r)", "(r|f))", "((r|f)|.))", "(r|f)(r|f)", "(r|f)r", "r(r|f)", "(r|f)>", "(r|f) ", "rr", "..", "r.f", "rf/fr",
		"(r|(r-f))", "((r-f)|r)", "(r-(r|f))", "((r|f)-r)", "((r|f)-(r|(f|.)))", "((r-f)|(r-(f-.)))", "((r-f)-(r|f))", "((r|f)|(r-f))",
		"(>(r|f)-(r|f))", "(>(r-f)|(r-f))", "(^(r|f)-r)", "*(r|(r-f))", ">^((r-f)|r)", "((r|(r-f))-.)", "(.|((r|f)-r))", "(>(r|f)|>(r-f))",
	}
}

// wideTerms returns terms of five and six cells in one row, and of such terms of two and more rows.
func wideTerms() (fitting, others []string) {
	five, six, three := chainOf(strings.Split(".rf.r", ""), "|"), chainOf(strings.Split(".rf.rf", ""), "|"), "(r|(f|.))"
	fitting = []string{five, "(" + five + "-" + five + ")", "((r|f)|" + three + ")", "((r|(f|(.|.)))|r)", "(>(r-f)|" + three + ")", "((r|f)|>(r-(f-.)))"}
	others = []string{six, "(" + three + "|" + three + ")", "(" + five + "|r)", "(r|" + five + ")", ">" + six, "^" + six, "*" + six, "((r|(f|(.|.)))|(r|f))", "(" + six + "-r)", "(>(r-(f-.))|" + three + ")", "(" + five + "|" + five + ")"}
	return fitting, others
}

// inColumns returns terms with each sign | and - become the other one.
func inColumns(terms []string) []string {
	columns := []string{}
	for _, text := range terms {
		columns = append(columns, strings.NewReplacer("|", "-", "-", "|").Replace(text))
	}
	return columns
}

// signKinds returns what signs stand in front of which others, letters and couples of a term.
func signKinds(text string) []string {
	kinds := []string{}
	for at := range len(text) {
		if strings.IndexByte(">^*", text[at]) < 0 {
			continue
		}
		next := text[at : at+2]
		if next[1] == '(' {
			middle, _ := middleOf(text[at+1:])
			next += text[at+1+middle : at+2+middle]
		}
		kinds = append(kinds, next)
		if next = text[at:min(at+3, len(text))]; strings.Trim(next, ">^*") == "" {
			kinds = append(kinds, next)
		}
	}
	return kinds
}

// The terms of the tests have what the promises tell apart, and the tests' two ways to the grid of a term that was made of one agree.
func TestTermSamples(t *testing.T) {
	seen := map[string]int{}
	for _, s := range allTerms() {
		g, ok := tellTerm(s.text)
		wantGrid(t, termName("putting together", s.text), g, ok, s.grid)
		for _, kind := range signKinds(s.text) {
			seen[kind]++
		}
		rounds := draw(s.grid).rounds
		seen[strconv.Itoa(len(s.text))+" bytes"]++
		seen[strconv.Itoa(rounds)+" rounds"]++
		seen[strconv.Itoa(len(s.grid))+" by "+strconv.Itoa(len(s.grid[0]))]++
		if strings.Contains(s.text, "*") && rounds != draw(exchangedTexts(s.grid)).rounds {
			seen["other rounds exchanged"]++
		}
	}
	kinds := []string{"other rounds exchanged", "0 rounds", "1 rounds", "2 rounds", "3 rounds", "4 rounds"}
	for length := 1; length <= termBytes; length++ {
		kinds = append(kinds, strconv.Itoa(length)+" bytes")
	}
	everySides(func(n, m int) {
		if n*m <= chainedCells {
			kinds = append(kinds, strconv.Itoa(n)+" by "+strconv.Itoa(m))
		}
	})
	for _, one := range []string{">", "^", "*"} {
		kinds = append(kinds, one+".", one+"r", one+"f", one+"(|", one+"(-")
		for _, two := range []string{">", "^", "*"} {
			kinds = append(kinds, one+two, one+two+">", one+two+"^", one+two+"*")
		}
	}
	for _, kind := range kinds {
		if seen[kind] == 0 {
			t.Errorf("no term is of the kind: %s", kind)
		}
	}
}

// Promise 89: a term stays one with a sign in front, as long as there is room, and never with a bracket behind.
func TestP89TermIn(t *testing.T) {
	for _, s := range allTerms() {
		wantTermIn(t, s.text, true)
		for _, sign := range []string{">", "^", "*"} {
			wantTermIn(t, sign+s.text, len(s.text) < termBytes)
		}
		wantTermIn(t, s.text+")", false)
		wantTermIn(t, s.text+"(", false)
	}
}

// All texts of at most 5 bytes, told to be terms or none by all terms so short.
func TestP89ShortTexts(t *testing.T) {
	terms := map[string]bool{}
	for _, text := range shortTerms(5) {
		terms[text] = true
	}
	for _, text := range shortTexts(5) {
		wantTermIn(t, text, terms[text])
	}
	wantNumber(t, "the number of terms", len(terms), true, 3+9+27+81+243+2*9)
}

// Terms with one byte less, more or other.
func TestP89SpoiltTerms(t *testing.T) {
	seen := map[bool]int{}
	terms := slices.Concat(madeTerms(), filledTerms())
	for at := 0; at < len(terms); at += 23 {
		for _, text := range spoiltTexts(terms[at].text) {
			want, ok := tellTerm(text)
			seen[ok]++
			if !ok {
				wantTermIn(t, text, false)
				continue
			}
			got, ok := impl.TermGrid(text)
			wantGrid(t, termName("TermGrid", text), got, ok, want)
		}
	}
	if seen[true] == 0 || seen[false] == 0 {
		t.Errorf("%d texts are terms, and %d are none", seen[true], seen[false])
	}
}

// Two terms in brackets are one if their grids fit.
func TestP89Couples(t *testing.T) {
	seen := map[string]int{}
	terms := madeTerms()
	for at := range 40000 {
		one, another := terms[at*37%len(terms)], terms[at*101%len(terms)]
		for _, sign := range []string{"|", "-"} {
			text := "(" + one.text + sign + another.text + ")"
			want := besideTexts(one.grid, another.grid)
			if sign == "-" {
				want = underTexts(one.grid, another.grid)
			}
			if len(text) > termBytes {
				want = nil
			}
			got, ok := impl.TermGrid(text)
			if want == nil {
				wantNoGrid(t, termName("TermGrid", text), got, ok)
			} else {
				wantGrid(t, termName("TermGrid", text), got, ok, want)
				seen[sign]++
			}
			if len(text) <= termBytes && want == nil {
				seen["not "+sign]++
			}
			wantTermIn(t, text, want != nil)
		}
	}
	for _, kind := range []string{"|", "-", "not |", "not -"} {
		if seen[kind] < 100 {
			t.Errorf("%d couples are of the kind: %s", seen[kind], kind)
		}
	}
}

// Terms of 54 to 60 bytes, and texts that would be terms with one byte less.
func TestP89Bytes(t *testing.T) {
	chain := chainedTerm(gridOfLetters(checkered(3, 5), 5))
	wantNumber(t, "the length of a term of 15 cells", len(chain), true, 57)
	last := strings.LastIndexAny(chain, ".rf")
	for _, inner := range []string{strings.Repeat("^", 53) + "f", strings.Repeat("*", 49) + "(.|r)", strings.Repeat("*", 49) + "(r-f)", chain} {
		for _, sign := range []string{">", "^", "*"} {
			for signs := 0; len(inner)+signs <= termBytes; signs++ {
				text := strings.Repeat(sign, signs) + inner
				want, ok := tellTerm(text)
				got, too := impl.TermGrid(text)
				wantGrid(t, termName("TermGrid", text), got, ok && too, want)
			}
			wantNoTerm(t, strings.Repeat(sign, termBytes+1-len(inner))+inner)
		}
	}
	for _, signs := range []string{">", "^>", "*^>"} {
		wantTermIn(t, chain[:last]+signs+chain[last:], true)
		wantNoTerm(t, "*"+chain[:last]+">>>"+chain[last:])
	}
	// 4 rows and 4 columns are a grid, but a term of it without signs has 61 bytes.
	wantNoTerm(t, chainedTerm(emptyGrid(4, 4)))
	for _, many := range []int{1000, 1 << 20} {
		wantNoTerm(t, strings.Repeat(">", many)+"r")
		wantNoTerm(t, strings.Repeat("(", many))
		wantNoTerm(t, strings.Repeat("r", many))
		wantNoTerm(t, "r"+strings.Repeat(" ", many))
	}
}

// Promise 90: a sign in front of a term turns, flips or exchanges its grid.
func TestP90TermGrid(t *testing.T) {
	signs := map[string]func([]string) ([]string, bool){">": impl.GridTurn, "^": impl.GridFlip, "*": impl.GridOther}
	for _, s := range allTerms() {
		g, ok := impl.TermGrid(s.text)
		wantGrid(t, termName("TermGrid", s.text), g, ok, s.grid)
		for sign, change := range signs {
			got, ok := impl.TermGrid(sign + s.text)
			if len(s.text) == termBytes {
				wantNoGrid(t, termName("TermGrid", sign+s.text), got, ok)
				continue
			}
			want, _ := change(g)
			wantGrid(t, termName("TermGrid", sign+s.text), got, ok, want)
		}
	}
}

func TestP90GridsTold(t *testing.T) {
	for _, c := range slices.Concat(toldTidies(), toldSigns()) {
		g, ok := impl.TermGrid(c.text)
		wantGrid(t, termName("TermGrid", c.text), g, ok, c.grid)
	}
}

// Each one, each two and each three signs in front of a term: the one next to it is the first one that changes the grid.
func TestP90Signs(t *testing.T) {
	signs := map[string]func([]string) []string{">": turnedTexts, "^": flippedTexts, "*": exchangedTexts}
	for _, text := range []string{"r", "(r|(.|f))", "(r-(.-f))", "((r|(.|f))-(.|(r|r)))", "((r-.)|((f-.)|(r-.)))"} {
		inner, _ := tellTerm(text)
		terms := map[string][]string{text: inner}
		for range 3 {
			for text, g := range terms {
				got, ok := impl.TermGrid(text)
				wantGrid(t, termName("TermGrid", text), got, ok, g)
			}
			further := map[string][]string{}
			for text, g := range terms {
				for sign, change := range signs {
					further[sign+text] = change(g)
				}
			}
			terms = further
		}
		wantNumber(t, termName("the number of three signs in front of", text), len(terms), true, 27)
		for text, g := range terms {
			got, ok := impl.TermGrid(text)
			wantGrid(t, termName("TermGrid", text), got, ok, g)
			tidy, ok := impl.TermTidy(text)
			wantText(t, termName("TermTidy", text), tidy, ok, tidyTerm(text))
		}
	}
}

// Promise 91: the size of a term is that of its grid.
func TestP91TermSize(t *testing.T) {
	for _, s := range allTerms() {
		rows, columns, ok := impl.TermSize(s.text)
		g := ofTerm(t, "TermGrid", impl.TermGrid, s.text)
		wantNumbers(t, termName("TermSize", s.text), []int{rows, columns}, ok, len(g), len(g[0]))
		wantNumbers(t, termName("TermSize", s.text), []int{rows, columns}, ok, len(s.grid), len(s.grid[0]))
	}
}

func TestP91SizesTold(t *testing.T) {
	for text, want := range map[string][]int{".": {1, 1}, ">r": {1, 1}, "(r|.)": {1, 2}, "(r-.)": {2, 1}, ">(r|.)": {2, 1}, ">(r-.)": {1, 2}, "^(r|.)": {1, 2}, "*(r-.)": {2, 1}, "((r|f)-((.|.)-(f|r)))": {3, 2}, ">((r|f)-((.|.)-(f|r)))": {2, 3}} {
		rows, columns, ok := impl.TermSize(text)
		wantNumbers(t, termName("TermSize", text), []int{rows, columns}, ok, want...)
	}
}

// Terms of as many rows and columns as there can be, and of one more.
func TestP91GreatestSizes(t *testing.T) {
	fitting, others := wideTerms()
	for _, text := range fitting {
		_, columns, ok := impl.TermSize(text)
		wantNumber(t, termName("the columns of TermSize", text), columns, ok, impl.SideMax)
	}
	for _, text := range inColumns(fitting) {
		rows, _, ok := impl.TermSize(text)
		wantNumber(t, termName("the rows of TermSize", text), rows, ok, impl.SideMax)
	}
	for _, text := range slices.Concat(others, inColumns(others)) {
		wantNoTerm(t, text)
	}
}

// Promise 92: the pairing of a term is that of the beams of its grid.
func TestP92TermPairs(t *testing.T) {
	for _, s := range allTerms() {
		pairs, ok := impl.TermPairs(s.text)
		wantNumbers(t, termName("TermPairs", s.text), pairs, ok, followedPairs(s.grid)...)
		g := ofTerm(t, "TermGrid", impl.TermGrid, s.text)
		wantNumbers(t, termName("TermPairs", s.text), pairs, ok, ofGrid(t, "BeamPairs", impl.BeamPairs, g)...)
	}
}

func TestP92PairsTold(t *testing.T) {
	for text, want := range map[string][]int{
		".":                {2, 3, 0, 1},
		"r":                {3, 2, 1, 0},
		"f":                {1, 0, 3, 2},
		">r":               {1, 0, 3, 2},
		"*f":               {3, 2, 1, 0},
		"(.|f)":            {4, 2, 1, 5, 0, 3},
		"(.|.)":            {4, 3, 5, 1, 0, 2},
		"(.-.)":            {3, 5, 4, 0, 2, 1},
		">(.|f)":           {4, 5, 3, 2, 0, 1},
		"^(.|f)":           {5, 3, 4, 1, 2, 0},
		"(f-r)":            {1, 0, 3, 2, 5, 4},
		"(r-f)":            {5, 2, 1, 4, 3, 0},
		"*(f-r)":           {5, 2, 1, 4, 3, 0},
		"((r|f)-(f|r))":    {7, 2, 1, 4, 3, 6, 5, 0},
		">((r|f)-(f|r))":   {7, 2, 1, 4, 3, 6, 5, 0},
		"*((r|f)-(f|r))":   {1, 0, 3, 2, 5, 4, 7, 6},
		"((.|.)-(.|.))":    {5, 4, 7, 6, 1, 0, 3, 2},
		"*>^((.-.)|(.-.))": {5, 4, 7, 6, 1, 0, 3, 2},
	} {
		pairs, ok := impl.TermPairs(text)
		wantNumbers(t, termName("TermPairs", text), pairs, ok, want...)
	}
}

// Promise 93: a term has the rounds of its grid.
func TestP93TermRounds(t *testing.T) {
	for _, s := range allTerms() {
		rounds, ok := impl.TermRounds(s.text)
		wantNumber(t, termName("TermRounds", s.text), rounds, ok, draw(s.grid).rounds)
		g := ofTerm(t, "TermGrid", impl.TermGrid, s.text)
		wantNumber(t, termName("TermRounds", s.text), rounds, ok, ofGrid(t, "RoundMany", impl.RoundMany, g))
	}
}

func TestP93RoundsTold(t *testing.T) {
	square := "((r|f)-(f|r))"
	for text, want := range map[string]int{
		"r":                                            0,
		"(r|f)":                                        0,
		square:                                         1,
		"*" + square:                                   0,
		">" + square:                                   1,
		"^" + square:                                   1,
		"*^>" + square:                                 0,
		"(>*(f|r)|(f-r))":                              0,
		"(>*(r|f)|(f-r))":                              1,
		"((r-f)|(f-r))":                                1,
		"*((f|r)-(r|f))":                               1,
		"(>(.|.)|" + square + ")":                      1,
		"*(>(.|.)|" + square + ")":                     0,
		"(" + square + "|" + square + ")":              2,
		"(" + square + "-" + square + ")":              2,
		"(" + square + "|*" + square + ")":             1,
		"((" + square + "|(r-f))|(f-r))":               2,
		"((r|f)-((f|r)-" + square + "))":               2,
		"^>(" + square + "|" + square + ")":            2,
		"((r|(f|.))-((f|(.|f))-(.|(f|r))))":            1,
		">((r|(f|.))-((f|(.|f))-(.|(f|r))))":           1,
		"*((r|(f|.))-((f|(.|f))-(.|(f|r))))":           0,
		chainedTerm(gridOfLetters(checkered(3, 5), 5)): 4,
		"^>" + chainedTerm(gridOfLetters(checkered(5, 3), 3)): 4,
	} {
		rounds, ok := impl.TermRounds(text)
		wantNumber(t, termName("TermRounds", text), rounds, ok, want)
	}
}

// Promise 94: a tidy term has no signs in front of terms, is its own, is no longer, and tells the same grid.
func TestP94TermTidy(t *testing.T) {
	for _, s := range allTerms() {
		tidy, ok := impl.TermTidy(s.text)
		wantText(t, termName("TermTidy", s.text), tidy, ok, tidyTerm(s.text))
		if strings.ContainsAny(tidy, ">^*") || len(tidy) > len(s.text) {
			t.Errorf("%s is %q", termName("TermTidy", s.text), tidy)
		}
		again, ok := impl.TermTidy(tidy)
		wantText(t, termName("TermTidy", tidy), again, ok, tidy)
		wantSame(t, s.text, tidy, true)
		if !strings.ContainsAny(s.text, ">^*") {
			wantText(t, termName("TermTidy", s.text), tidy, ok, s.text)
		}
	}
}

func TestP94TidyTold(t *testing.T) {
	for _, c := range slices.Concat(toldTidies(), toldSigns()) {
		tidy, ok := impl.TermTidy(c.text)
		wantText(t, termName("TermTidy", c.text), tidy, ok, c.tidy)
	}
}

// Promise 95: two terms are the same if they tell the same grid, and have the same pairs and rounds then.
func TestP95TermSame(t *testing.T) {
	terms := slices.Clone(allTerms())
	slices.SortStableFunc(terms, func(one, another toldTerm) int { return slices.Compare(one.grid, another.grid) })
	same := 0
	for at := 1; at < len(terms); at++ {
		one, another := terms[at-1], terms[at]
		alike := slices.Equal(one.grid, another.grid)
		wantSame(t, one.text, another.text, alike)
		if !alike {
			continue
		}
		if one.text != another.text {
			same++
		}
		wantNumbers(t, termName("TermPairs", one.text), ofTerm(t, "TermPairs", impl.TermPairs, one.text), true, ofTerm(t, "TermPairs", impl.TermPairs, another.text)...)
		wantNumber(t, termName("TermRounds", one.text), ofTerm(t, "TermRounds", impl.TermRounds, one.text), true, ofTerm(t, "TermRounds", impl.TermRounds, another.text))
	}
	if same < 1000 {
		t.Errorf("%d terms are other terms of the same grid", same)
	}
}

// Each two of some terms.
func TestP95EachTwo(t *testing.T) {
	terms := []toldTerm{}
	for at := 0; at < len(allTerms()); at += 31 {
		terms = append(terms, allTerms()[at])
	}
	for _, one := range terms {
		wantSame(t, one.text, one.text, true)
		for _, another := range terms {
			wantSame(t, one.text, another.text, slices.Equal(one.grid, another.grid))
		}
	}
}

func TestP95SameTold(t *testing.T) {
	for _, two := range [][2]string{{"r", "*f"}, {"r", ">>r"}, {".", "*^>."}, {"(r|f)", "^(r|f)"}, {"((r|f)|.)", "(r|(f|.))"}, {"((r-f)-.)", "(r-(f-.))"}, {"((r|f)-(f|r))", "((r-f)|(f-r))"}, {">>(r|.)", "(.|r)"}, {">(r|.)", "(f-.)"}, {"^>(r-.)", "(r|.)"}} {
		wantSame(t, two[0], two[1], true)
	}
	// Some of these have the same letters in other rows and columns, or the same pairs and rounds, but tell other grids.
	for _, two := range [][2]string{{"r", "f"}, {"r", "."}, {".", "(.|.)"}, {"(.|.)", "(.-.)"}, {"(r|f)", "(r-f)"}, {"(r|.)", "(.|r)"}, {"(r-.)", "(.-r)"}, {">^(r|.)", "^>(r|.)"}, {"((r|f)-(.|r))", "((r|f)-((.|r)-(r|.)))"}, {"((.|f)-(f|.))", "((f|.)-(.|.))"}, {"((f|.)-(.|.))", "((.|.)-(.|f))"}} {
		wantSame(t, two[0], two[1], false)
	}
}

// Two texts are not the same if one of them is no term, even if they are equal.
func TestP95NoTerms(t *testing.T) {
	_, wide := wideTerms()
	texts := slices.Concat(toldNoTerms(), wide)
	for _, one := range texts {
		for _, another := range append(texts, ".", "(r|f)") {
			wantSame(t, one, another, false)
		}
	}
}

// Promise 96: the term of a grid tells it and is tidy.
func TestP96TermOf(t *testing.T) {
	everySides(func(n, m int) {
		for _, g := range append(mixedGrids(n, m, 30), gridOfLetters(checkered(n, m), m)) {
			text, ok := impl.TermOf(g)
			if n*m > chainedCells {
				if ok || text != "" {
					t.Errorf("%s returned %q, %v instead of failing", name("TermOf", g), text, ok)
				}
				continue
			}
			wantText(t, name("TermOf", g), text, ok, chainedTerm(g))
			wantNumber(t, name("the length of TermOf", g), len(text), true, 4*n*m-3)
			told, ok := impl.TermGrid(text)
			wantGrid(t, termName("TermGrid", text), told, ok, g)
			tidy, ok := impl.TermTidy(text)
			wantText(t, termName("TermTidy", text), tidy, ok, text)
		}
	})
}

func TestP96TermsTold(t *testing.T) {
	for _, c := range []struct {
		g    []string
		want string
	}{
		{[]string{"."}, "."},
		{[]string{"r"}, "r"},
		{[]string{"f"}, "f"},
		{[]string{"rf"}, "(r|f)"},
		{[]string{"rf."}, "(r|(f|.))"},
		{[]string{"..r.f"}, "(.|(.|(r|(.|f))))"},
		{[]string{"r", "f"}, "(r-f)"},
		{[]string{"r", "f", "."}, "(r-(f-.))"},
		{[]string{"f", ".", ".", "r", "r"}, "(f-(.-(.-(r-r))))"},
		{[]string{"rf", "fr"}, "((r|f)-(f|r))"},
		{[]string{"r.f", "f.r"}, "((r|(.|f))-(f|(.|r)))"},
		{[]string{"rf", "..", "fr"}, "((r|f)-((.|.)-(f|r)))"},
		{[]string{"rfrfr", "f.f.f", "rrrff"}, "((r|(f|(r|(f|r))))-((f|(.|(f|(.|f))))-(r|(r|(r|(f|f))))))"},
	} {
		text, ok := impl.TermOf(c.g)
		wantText(t, name("TermOf", c.g), text, ok, c.want)
	}
}

func TestP96TermOfNoGrid(t *testing.T) {
	for _, g := range notGrids() {
		if text, ok := impl.TermOf(g); ok || text != "" {
			t.Errorf("TermOf %q returned %q, %v instead of failing", g, text, ok)
		}
	}
}

func TestNoTerms(t *testing.T) {
	for _, text := range toldNoTerms() {
		wantNoTerm(t, text)
	}
}

func TestTermsShareNoMemory(t *testing.T) {
	for _, c := range slices.Concat(toldTidies(), toldSigns()) {
		wantOwnMemory(t, termName("TermGrid", c.text), "spoilt", func() ([]string, bool) { return impl.TermGrid(c.text) })
		wantOwnMemory(t, termName("TermPairs", c.text), -7, func() ([]int, bool) { return impl.TermPairs(c.text) })
		g, all := wholeMemory(c.grid)
		kept := slices.Clone(all)
		impl.TermOf(g)
		if !slices.Equal(all, kept) {
			t.Errorf("%s changes it to %q", name("TermOf", c.grid), all)
		}
	}
}

// Calls at the same time return the same, and so do later ones, whatever failed ahead of them.
func TestTermsAtOnce(t *testing.T) {
	var calls sync.WaitGroup
	for range 8 {
		calls.Go(func() {
			for _, c := range toldTidies() {
				wantNoTerm(t, c.text+")")
				g, ok := impl.TermGrid(c.text)
				wantGrid(t, termName("TermGrid", c.text), g, ok, c.grid)
				pairs, ok := impl.TermPairs(c.text)
				wantNumbers(t, termName("TermPairs", c.text), pairs, ok, followedPairs(c.grid)...)
				tidy, ok := impl.TermTidy(c.text)
				wantText(t, termName("TermTidy", c.text), tidy, ok, c.tidy)
			}
		})
	}
	calls.Wait()
}
