package tests

import (
	"slices"
	"strconv"
	"strings"
	"sync"
	"testing"

	"loop.example/mirrorgrids/impl"
)

// askName names a call for answers and a port.
func askName(call string, a asked, ports ...int) string {
	return pairsName(call, a.answers, append([]int{a.sides.n, a.sides.m}, ports...)...)
}

// fit calls AskFit, which must succeed.
func (a asked) fit(t *testing.T) int {
	t.Helper()
	fit, ok := impl.AskFit(a.sides.n, a.sides.m, a.answers)
	if !ok {
		t.Fatalf("%s fails", askName("AskFit", a))
	}
	return fit
}

// worstOf calls AskWorst, which must succeed.
func (a asked) worstOf(t *testing.T, port int) int {
	t.Helper()
	worst, ok := impl.AskWorst(a.sides.n, a.sides.m, a.answers, port)
	if !ok {
		t.Fatalf("%s fails", askName("AskWorst", a, port))
	}
	return worst
}

// toldAnswers is answers of n rows and m columns with what is told of the grids that fit them: how many there are, the first one, AskWorst of each port, the best one, and the sure letters. The texts are nil if there are no grids.
type toldAnswers struct {
	n, m    int
	answers []int
	fit     int
	first   []string
	worst   []int
	best    int
	sure    []string
}

// asked returns the answers with the grids that fit them.
func (c toldAnswers) asked() asked {
	return hiddenOf(c.n, c.m).ask(c.answers)
}

// toldAskings returns answers with what is told of them. Some lists stand there twice, for rows and columns exchanged.
func toldAskings() []toldAnswers {
	return []toldAnswers{
		{1, 1, noAnswers(4), 3, []string{"."}, []int{1, 1, 1, 1}, 0, []string{"?"}},
		{1, 1, []int{2, -1, -1, -1}, 1, []string{"."}, []int{1, 1, 1, 1}, 0, []string{"."}},
		{1, 1, []int{-1, -1, -1, 2}, 1, []string{"f"}, []int{1, 1, 1, 1}, 0, []string{"f"}},
		{1, 1, []int{3, 2, 1, 0}, 1, []string{"r"}, []int{1, 1, 1, 1}, 0, []string{"r"}},
		{1, 1, []int{0, -1, -1, -1}, 0, nil, []int{0, 0, 0, 0}, 0, nil},
		{1, 1, []int{2, -1, -1, 0}, 0, nil, []int{0, 0, 0, 0}, 0, nil},
		{1, 2, noAnswers(6), 9, []string{".."}, []int{3, 3, 3, 3, 3, 3}, 0, []string{"??"}},
		{1, 2, []int{4, -1, -1, -1, -1, -1}, 3, []string{".."}, []int{3, 1, 1, 1, 3, 1}, 1, []string{".?"}},
		{2, 1, []int{4, -1, -1, -1, -1, -1}, 1, []string{".", "r"}, []int{1, 1, 1, 1, 1, 1}, 0, []string{".", "r"}},
		{1, 2, []int{3, -1, -1, -1, -1, -1}, 1, []string{"ff"}, []int{1, 1, 1, 1, 1, 1}, 0, []string{"ff"}},
		{2, 1, []int{3, -1, -1, -1, -1, -1}, 1, []string{".", "."}, []int{1, 1, 1, 1, 1, 1}, 0, []string{".", "."}},
		{1, 2, []int{-1, -1, -1, 1, -1, -1}, 3, []string{".."}, []int{1, 3, 1, 3, 1, 1}, 0, []string{"?."}},
		{2, 1, []int{-1, 5, -1, -1, -1, -1}, 3, []string{".", "."}, []int{1, 3, 1, 1, 1, 3}, 0, []string{".", "?"}},
		{1, 2, []int{5, 5, -1, -1, -1, -1}, 0, nil, []int{0, 0, 0, 0, 0, 0}, 0, nil},
		{3, 1, []int{-1, 7, -1, -1, -1, -1, -1, -1}, 9, []string{".", ".", "."}, []int{3, 9, 3, 3, 3, 3, 3, 9}, 0, []string{".", "?", "?"}},
		{1, 3, []int{-1, -1, -1, 7, -1, -1, -1, -1}, 1, []string{"..."}, []int{1, 1, 1, 1, 1, 1, 1, 1}, 0, []string{"..."}},
		{1, 4, noAnswers(10), 81, []string{"...."}, slices.Repeat([]int{27}, 10), 0, []string{"????"}},
		{1, 4, withAnswer(noAnswers(10), 4, 3), 27, []string{"...f"}, []int{9, 9, 9, 27, 27, 9, 9, 9, 9, 9}, 0, []string{"???f"}},
		{4, 1, withAnswer(noAnswers(10), 2, 6), 3, []string{".", "r", ".", "r"}, []int{1, 1, 3, 3, 3, 3, 3, 3, 1, 1}, 0, []string{"?", "r", ".", "r"}},
		{4, 1, []int{5, -1, -1, -1, -1, 5, -1, -1, -1, -1}, 0, nil, slices.Repeat([]int{0}, 10), 0, nil},
		{2, 2, noAnswers(8), 81, []string{"..", ".."}, slices.Repeat([]int{29}, 8), 0, []string{"??", "??"}},
		{2, 2, withAnswer(noAnswers(8), 0, 7), 29, []string{"r.", ".."}, []int{29, 13, 13, 13, 13, 13, 13, 29}, 1, []string{"??", "??"}},
		{2, 2, withAnswer(noAnswers(8), 0, 5), 10, []string{"..", ".."}, []int{10, 4, 4, 4, 4, 10, 3, 3}, 6, []string{"??", "??"}},
		{2, 2, withAnswer(noAnswers(8), 6, 0), 10, []string{"..", "r."}, []int{10, 4, 4, 4, 4, 3, 10, 3}, 5, []string{"??", "??"}},
		{2, 2, withAnswer(noAnswers(8), 0, 3), 6, []string{"..", "f."}, []int{6, 4, 4, 6, 2, 4, 4, 2}, 4, []string{"??", "??"}},
		{2, 2, withAnswer(noAnswers(8), 1, 0), 10, []string{"fr", ".."}, []int{10, 10, 3, 4, 4, 4, 4, 3}, 2, []string{"??", "??"}},
		{2, 2, []int{5, 4, -1, -1, -1, -1, -1, -1}, 1, []string{"..", ".."}, slices.Repeat([]int{1}, 8), 0, []string{"..", ".."}},
		{2, 2, []int{7, 6, 5, 4, 3, 2, 1, 0}, 2, []string{"r.", ".r"}, slices.Repeat([]int{2}, 8), 0, []string{"r?", "?r"}},
		{2, 2, []int{7, 2, 1, 4, 3, 6, 5, 0}, 9, []string{"rf", "f."}, slices.Repeat([]int{9}, 8), 0, []string{"??", "??"}},
		{2, 2, []int{-1, -1, -1, -1, -1, 1, -1, 7}, 0, nil, slices.Repeat([]int{0}, 8), 0, nil},
	}
}

// kindsOf tells which kinds that the promises tell apart answers are of.
func kindsOf(a asked) map[string]bool {
	fit, many, single := len(a.fits), a.many(), a.sides.n*a.sides.m == 1
	best := a.best()
	sure := ""
	if fit > 0 {
		sure = strings.Join(a.sure(), "")
	}
	questions := strings.Count(sure, "?")
	return map[string]bool{
		"one cell":                  single,
		"one row":                   a.sides.n == 1 && a.sides.m == askedCells,
		"one column":                a.sides.m == 1 && a.sides.n == askedCells,
		"two rows, two columns":     a.sides.n == 2 && a.sides.m == 2,
		"no answers":                many == 0 && !single,
		"one answer":                many == 1 && !single,
		"all answers":               many == a.ports() && !single && fit > 0,
		"all answers, none fits":    many == a.ports() && fit == 0,
		"none fits":                 fit == 0 && !single,
		"none fits one answer":      fit == 0 && many == 1,
		"one grid alone fits":       fit == 1 && !single,
		"many fit":                  fit > 20,
		"port 0 alone was asked":    many == 1 && a.answers[0] >= 0,
		"port 0 asked, not best":    fit > 2 && a.answers[0] >= 0 && best[0] > 0,
		"an unasked one is worse":   fit > 2 && many == 1 && len(best) < a.ports()-1,
		"more than one is best":     len(best) > 1 && len(best) < a.ports() && best[0] > 0,
		"all are as good":           fit > 2 && len(best) == a.ports() && many > 0,
		"a letter is sure":          questions > 0 && questions < len(sure),
		"all letters are sure":      fit > 0 && questions == 0 && !single,
		"no letter is sure":         many > 0 && questions == len(sure) && fit > 0,
		"an empty cell is sure":     questions > 0 && strings.Contains(sure, "."),
		"a first one with mirrors":  fit > 1 && mirrorsOf(a.fits[0]) > 0,
		"a later one begins with .": fit > 1 && a.fits[0][0][0] != '.' && slices.ContainsFunc(a.fits, func(g []string) bool { return g[0][0] == '.' }),
	}
}

// The answers of the tests are of all kinds that the promises tell apart.
func TestAskingSamples(t *testing.T) {
	seen := map[string]int{}
	for _, a := range allAsked() {
		for kind, is := range kindsOf(a) {
			if is {
				seen[kind]++
			}
		}
	}
	for kind := range kindsOf(allAsked()[0]) {
		if seen[kind] == 0 {
			t.Errorf("no answers are of the kind: %s", kind)
		}
	}
	sides := [][2]int{}
	for _, s := range allHidden() {
		sides = append(sides, [2]int{s.n, s.m})
	}
	if want := [][2]int{{1, 1}, {1, 2}, {1, 3}, {1, 4}, {2, 1}, {2, 2}, {3, 1}, {4, 1}}; !slices.Equal(sides, want) {
		t.Errorf("grids are hidden for %v", sides)
	}
}

// Promise 71: the grids that fit are those that fit one more answer for a port that was not asked, over all partners.
func TestP71AskFit(t *testing.T) {
	for _, a := range allAsked() {
		fit := a.fit(t)
		wantNumber(t, askName("AskFit", a), fit, true, len(a.fits))
		for port, answer := range a.answers {
			// Promise 71 is that of port 0, and the others are no different.
			if answer >= 0 || port > 0 && len(a.fits) < 9 {
				continue
			}
			sum := 0
			for partner := range a.ports() {
				sum += a.with(port, partner).fit(t)
			}
			wantNumber(t, askName("the sum of AskFit", a, port), sum, true, fit)
		}
	}
}

func TestP71FitTold(t *testing.T) {
	for _, c := range toldAskings() {
		wantNumber(t, askName("AskFit", c.asked()), c.asked().fit(t), true, c.fit)
	}
}

// Each one of all lists of answers of 2 cells is told the grids that fit it.
func TestP71AllAnswers(t *testing.T) {
	for _, s := range []hiddenSides{hiddenOf(1, 2), hiddenOf(2, 1)} {
		for _, answers := range everyAnswer(s.ports()) {
			fit, ok := impl.AskFit(s.n, s.m, answers)
			if want := len(s.ask(answers).fits); !ok || fit != want {
				t.Fatalf("%s returned %d, %v instead of %d", pairsName("AskFit", answers, s.n, s.m), fit, ok, want)
			}
		}
	}
}

// Promise 72: the first grid that fits has the partners that were told, and there is one if any fits.
func TestP72AskFirst(t *testing.T) {
	for _, a := range allAsked() {
		call := askName("AskFirst", a)
		first, ok := impl.AskFirst(a.sides.n, a.sides.m, a.answers)
		if len(a.fits) == 0 {
			wantNoGrid(t, call, first, ok)
			continue
		}
		wantGrid(t, call, first, ok, a.fits[0])
		if fit := a.fit(t); fit < 1 {
			t.Errorf("%s succeeds, and AskFit is %d", call, fit)
		}
		if pairs := gridSides(t, first).pairs; !answersHold(a.answers, pairs) {
			t.Errorf("%s is %q, of the pairing %v", call, first, pairs)
		}
	}
}

func TestP72FirstTold(t *testing.T) {
	for _, c := range toldAskings() {
		first, ok := impl.AskFirst(c.n, c.m, c.answers)
		if c.fit == 0 {
			wantNoGrid(t, askName("AskFirst", c.asked()), first, ok)
		} else {
			wantGrid(t, askName("AskFirst", c.asked()), first, ok, c.first)
		}
	}
}

// No grid with a lesser number than the first one fits.
func TestP72LeastNumber(t *testing.T) {
	for _, a := range allAsked() {
		first, ok := impl.AskFirst(a.sides.n, a.sides.m, a.answers)
		if !ok {
			continue
		}
		number, ok := impl.GridNumber(first)
		must(t, ok, "GridNumber", first)
		for lesser := range number {
			g, ok := impl.GridOf(a.sides.n, a.sides.m, lesser)
			if !ok || answersHold(a.answers, gridSides(t, g).pairs) {
				t.Errorf("%s is %q, and %q, %v fits too", askName("AskFirst", a), first, g, ok)
			}
		}
	}
}

// Promise 73: the most grids that fit one more answer are at most all that fit, at least as many as are had by sharing them out, and all for a port that was asked.
func TestP73AskWorst(t *testing.T) {
	for _, a := range allAsked() {
		fit := a.fit(t)
		for port, answer := range a.answers {
			call := askName("AskWorst", a, port)
			worst := a.worstOf(t, port)
			wantNumber(t, call, worst, true, a.worst(port))
			if worst > fit || worst*(a.ports()-1) < fit {
				t.Errorf("%s is %d, of %d grids", call, worst, fit)
			}
			if answer >= 0 {
				wantNumber(t, call+", asked,", worst, true, fit)
			}
		}
	}
}

func TestP73WorstTold(t *testing.T) {
	for _, c := range toldAskings() {
		for port, want := range c.worst {
			wantNumber(t, askName("AskWorst", c.asked(), port), c.asked().worstOf(t, port), true, want)
		}
	}
}

// AskWorst is AskFit of the answers and one more, for some partner, and for no other one is this greater.
func TestP73WorstOfAnswers(t *testing.T) {
	for _, s := range allHidden() {
		for _, answers := range append([][]int{noAnswers(s.ports())}, answersTo(s.pairs[len(s.pairs)/2], 1), answersTo(s.pairs[len(s.pairs)-1], 4)) {
			a := s.ask(answers)
			for port, answer := range answers {
				fits := []int{}
				for partner := range a.ports() {
					fits = append(fits, a.with(port, partner).fit(t))
				}
				if answer < 0 {
					wantNumber(t, askName("AskWorst", a, port), a.worstOf(t, port), true, slices.Max(fits))
				}
			}
		}
	}
}

// Promise 74: no port is better than the best one, and each lesser one is worse.
func TestP74AskBest(t *testing.T) {
	for _, a := range allAsked() {
		call := askName("AskBest", a)
		best, ok := impl.AskBest(a.sides.n, a.sides.m, a.answers)
		wantNumber(t, call, best, ok, a.best()[0])
		least := a.worstOf(t, best)
		for port := range a.ports() {
			worst := a.worstOf(t, port)
			if least > worst || port < best && least == worst {
				t.Errorf("%s is %d with %d grids, and port %d has %d", call, best, least, port, worst)
			}
		}
	}
}

func TestP74BestTold(t *testing.T) {
	for _, c := range toldAskings() {
		best, ok := impl.AskBest(c.n, c.m, c.answers)
		wantNumber(t, askName("AskBest", c.asked()), best, ok, c.best)
	}
}

// Promise 75: a sure letter is that of the first grid, and all are sure if one grid alone fits.
func TestP75AskSure(t *testing.T) {
	for _, a := range allAsked() {
		call := askName("AskSure", a)
		sure, ok := impl.AskSure(a.sides.n, a.sides.m, a.answers)
		if len(a.fits) == 0 {
			wantNoGrid(t, call, sure, ok)
			continue
		}
		wantGrid(t, call, sure, ok, a.sure())
		first, ok := impl.AskFirst(a.sides.n, a.sides.m, a.answers)
		must(t, ok, askName("AskFirst", a), sure)
		for cell := range cellsOf(first) {
			letter := letterAt(sure, cell)
			if letter != '?' && letter != letterAt(first, cell) || letter == '?' && a.fit(t) == 1 {
				t.Errorf("%s is %q, of %d grids, the first one being %q", call, sure, a.fit(t), first)
			}
		}
	}
}

func TestP75SureTold(t *testing.T) {
	for _, c := range toldAskings() {
		sure, ok := impl.AskSure(c.n, c.m, c.answers)
		if c.fit == 0 {
			wantNoGrid(t, askName("AskSure", c.asked()), sure, ok)
		} else {
			wantGrid(t, askName("AskSure", c.asked()), sure, ok, c.sure)
		}
	}
}

// everyHidden calls check for all grids of at most askedCells cells.
func everyHidden(check func(s hiddenSides, g []string, pairs []int)) {
	for _, s := range allHidden() {
		for at, g := range s.grids {
			check(s, g, s.pairs[at])
		}
	}
}

// Promise 76: a grid fits what it answers, and each one fits what is answered for no ports.
func TestP76AskOf(t *testing.T) {
	everyHidden(func(s hiddenSides, g []string, pairs []int) {
		for _, set := range setsOf(s.ports()) {
			answers, ok := impl.AskOf(g, set)
			wantNumbers(t, name("AskOf", g, set), answers, ok, answersTo(pairs, set)...)
			fit, ok := impl.AskFit(s.n, s.m, answers)
			if !ok || fit < 1 {
				t.Errorf("%s is %v, and AskFit %d, %v", name("AskOf", g, set), answers, fit, ok)
			}
		}
	})
}

// All sets of ports are taken.
func TestP76AllSets(t *testing.T) {
	everyHidden(func(s hiddenSides, g []string, pairs []int) {
		for set := range 1 << s.ports() {
			answers, ok := impl.AskOf(g, set)
			if !ok || !slices.Equal(answers, answersTo(pairs, set)) {
				t.Fatalf("%s returned %v, %v instead of %v", name("AskOf", g, set), answers, ok, answersTo(pairs, set))
			}
		}
	})
}

func TestP76NoPorts(t *testing.T) {
	everyHidden(func(s hiddenSides, g []string, pairs []int) {
		answers, ok := impl.AskOf(g, 0)
		wantNumbers(t, name("AskOf", g, 0), answers, ok, noAnswers(s.ports())...)
		fit, ok := impl.AskFit(s.n, s.m, answers)
		wantNumber(t, pairsName("AskFit", answers, s.n, s.m), fit, ok, len(s.grids))
		all, ok := impl.AskOf(g, 1<<s.ports()-1)
		wantNumbers(t, name("AskOf all ports", g), all, ok, gridSides(t, g).pairs...)
	})
}

func TestP76AnswersTold(t *testing.T) {
	for _, c := range []struct {
		g    []string
		set  int
		want []int
	}{
		{[]string{"."}, 0, []int{-1, -1, -1, -1}},
		{[]string{"."}, 1, []int{2, -1, -1, -1}},
		{[]string{"r"}, 2, []int{-1, 2, -1, -1}},
		{[]string{"f"}, 4, []int{-1, -1, 3, -1}},
		{[]string{"f"}, 8, []int{-1, -1, -1, 2}},
		{[]string{"f"}, 15, []int{1, 0, 3, 2}},
		{[]string{"r"}, 10, []int{-1, 2, -1, 0}},
		{[]string{".f"}, 0b100001, []int{4, -1, -1, -1, -1, 3}},
		{[]string{"r", "f"}, 0b110, []int{-1, 2, 1, -1, -1, -1}},
		{[]string{"rf", "f."}, 0b10101010, []int{-1, 2, -1, 4, -1, 6, -1, 0}},
		{[]string{"..", ".."}, 0b10000001, []int{5, -1, -1, -1, -1, -1, -1, 2}},
		{[]string{"...."}, 1<<4 | 1<<9, []int{-1, -1, -1, -1, 9, -1, -1, -1, -1, 4}},
		{[]string{".", ".", ".", "f"}, 1<<0 | 1<<9, []int{4, -1, -1, -1, -1, -1, -1, -1, -1, 1}},
	} {
		answers, ok := impl.AskOf(c.g, c.set)
		wantNumbers(t, name("AskOf", c.g, c.set), answers, ok, c.want...)
	}
}

// Promise 77: without the answer of the last port, no fewer grids fit.
func TestP77AskFit(t *testing.T) {
	more := 0
	for _, a := range allAsked() {
		fit := a.fit(t)
		without := a.with(a.ports()-1, -1)
		less := without.fit(t)
		if less < fit {
			t.Errorf("%s is %d, and without the last answer %d", askName("AskFit", a), fit, less)
		}
		if less > fit && fit > 0 {
			more++
		}
		wantNumber(t, askName("AskFit", without), less, true, len(without.fits))
	}
	if more == 0 {
		t.Error("no last answer tells grids apart")
	}
}

// What is asked of answers turned is turned.
func TestAskingTurned(t *testing.T) {
	for _, a := range allAsked() {
		turned := a.turned()
		wantNumber(t, askName("turned, AskFit", a), turned.fit(t), true, a.fit(t))
		for port := range a.ports() {
			wantNumber(t, askName("turned, AskWorst", a, port), turned.worstOf(t, a.sides.turnedPort(port)), true, a.worstOf(t, port))
		}
		sure, ok := impl.AskSure(a.sides.n, a.sides.m, a.answers)
		turnedSure, too := impl.AskSure(turned.sides.n, turned.sides.m, turned.answers)
		if ok {
			wantGrid(t, askName("turned, AskSure", a), turnedSure, too, turnedTexts(sure))
		} else {
			wantNoGrid(t, askName("turned, AskSure", a), turnedSure, too)
		}
	}
}

// Numbers of rows and columns exchanged take the same lists, but other grids fit them.
func TestAskingExchanged(t *testing.T) {
	others := 0
	for _, a := range allAsked() {
		exchanged := hiddenOf(a.sides.m, a.sides.n).ask(a.answers)
		wantNumber(t, askName("AskFit", exchanged), exchanged.fit(t), true, len(exchanged.fits))
		if len(exchanged.fits) != len(a.fits) {
			others++
		}
	}
	if others == 0 {
		t.Error("as many grids fit with rows and columns exchanged")
	}
}

// Who asks the best port again and again finds the grid, or that all ports were asked that tell grids apart.
func TestAskingToTheEnd(t *testing.T) {
	everyHidden(func(s hiddenSides, g []string, pairs []int) {
		a := s.ask(noAnswers(s.ports()))
		for range s.ports() {
			best, ok := impl.AskBest(s.n, s.m, a.answers)
			if !ok {
				t.Fatalf("%s fails", askName("AskBest", a))
			}
			if a.worstOf(t, best) == len(a.fits) {
				break
			}
			a = a.with(best, pairs[best])
		}
		all := s.ask(pairs)
		wantNumber(t, askName("AskFit", a), a.fit(t), true, len(all.fits))
		first, ok := impl.AskFirst(s.n, s.m, a.answers)
		wantGrid(t, askName("AskFirst", a), first, ok, all.fits[0])
	})
}

// wantNoAsking checks that nothing is told of a list for numbers of rows and columns.
func wantNoAsking(t *testing.T, n, m int, answers []int) {
	t.Helper()
	fit, ok := impl.AskFit(n, m, answers)
	wantNoNumber(t, pairsName("AskFit", answers, n, m), fit, ok)
	first, ok := impl.AskFirst(n, m, answers)
	wantNoGrid(t, pairsName("AskFirst", answers, n, m), first, ok)
	for _, port := range []int{-1, 0, 1, 3, len(answers) - 1} {
		worst, ok := impl.AskWorst(n, m, answers, port)
		wantNoNumber(t, pairsName("AskWorst", answers, n, m, port), worst, ok)
	}
	best, ok := impl.AskBest(n, m, answers)
	wantNoNumber(t, pairsName("AskBest", answers, n, m), best, ok)
	sure, ok := impl.AskSure(n, m, answers)
	wantNoGrid(t, pairsName("AskSure", answers, n, m), sure, ok)
}

func TestAskingOfMoreCells(t *testing.T) {
	for _, sides := range sidesWithMore(askedCells) {
		n, m := sides[0], sides[1]
		wantNoAsking(t, n, m, noAnswers(2*n+2*m))
		wantNoAsking(t, n, m, followedPairs(emptyGrid(n, m)))
		wantNoAsking(t, n, m, withAnswer(noAnswers(2*n+2*m), 0, 2*n+2*m-1))
	}
	for _, sides := range [][2]int{{1, 5}, {5, 1}, {2, 3}, {3, 2}} {
		wantNoAsking(t, sides[0], sides[1], noAnswers(2*sides[0]+2*sides[1]))
	}
}

func TestAskingOfNoSides(t *testing.T) {
	for _, sides := range sidesFor() {
		for ports := 0; ports <= 24; ports += 2 {
			wantNoAsking(t, sides[0], sides[1], noAnswers(ports))
		}
		wantNoAsking(t, sides[0], sides[1], neighbours(6))
	}
	// These have as many ports or cells as grids that are hidden.
	for _, sides := range [][2]int{{0, 2}, {2, 0}, {0, 4}, {4, 0}, {-1, 3}, {3, -1}, {-1, 6}, {6, -1}, {-1, -4}, {-2, -2}, {-1, -1}, {0, 0}, {7, -5}} {
		for ports := 0; ports <= 12; ports += 2 {
			wantNoAsking(t, sides[0], sides[1], noAnswers(ports))
		}
	}
}

func TestAskingOfOtherLengths(t *testing.T) {
	for _, s := range allHidden() {
		for length := range 26 {
			if length != s.ports() {
				wantNoAsking(t, s.n, s.m, noAnswers(length))
				wantNoAsking(t, s.n, s.m, make([]int, length))
			}
		}
		wantNoAsking(t, s.n, s.m, nil)
		wantNoAsking(t, s.n, s.m, s.pairs[0][1:])
		wantNoAsking(t, s.n, s.m, append(slices.Clone(s.pairs[0]), -1))
		wantNoAsking(t, s.n, s.m, noAnswers(300))
	}
}

// noPartners returns numbers that are neither -1 nor one of a port.
func noPartners(ports int) []int {
	numbers := append(someNumbers(), ports, ports+1, -3, 20, 1<<32, 1<<32+1, -1<<32, -1<<32-1)
	return slices.DeleteFunc(numbers, func(number int) bool { return -1 <= number && number < ports })
}

func TestAskingOfNoPartners(t *testing.T) {
	for _, s := range allHidden() {
		for port := range s.ports() {
			for _, number := range noPartners(s.ports()) {
				wantNoAsking(t, s.n, s.m, withAnswer(noAnswers(s.ports()), port, number))
				wantNoAsking(t, s.n, s.m, withAnswer(s.pairs[0], port, number))
			}
		}
		// No grid fits these either, but they are not as told first.
		wantNoAsking(t, s.n, s.m, withAnswer(withAnswer(noAnswers(s.ports()), 0, 0), s.ports()-1, -2))
	}
}

// AskWorst fails for numbers that are none of a port, also where no grid fits.
func TestAskWorstOfNoPorts(t *testing.T) {
	for _, s := range allHidden() {
		for _, answers := range [][]int{noAnswers(s.ports()), s.pairs[0], withAnswer(noAnswers(s.ports()), 0, 0)} {
			for _, port := range append(noPartners(s.ports()), -1) {
				worst, ok := impl.AskWorst(s.n, s.m, answers, port)
				wantNoNumber(t, pairsName("AskWorst", answers, s.n, s.m, port), worst, ok)
			}
		}
	}
}

// Where no grid fits, no first one and no sure letters are told, but numbers of 0 grids, and the port 0 is the best one.
func TestAskingWithoutGrids(t *testing.T) {
	for _, s := range allHidden() {
		for port := range s.ports() {
			a := s.ask(withAnswer(noAnswers(s.ports()), port, port))
			wantNumber(t, askName("AskFit", a), a.fit(t), true, 0)
			first, ok := impl.AskFirst(s.n, s.m, a.answers)
			wantNoGrid(t, askName("AskFirst", a), first, ok)
			sure, ok := impl.AskSure(s.n, s.m, a.answers)
			wantNoGrid(t, askName("AskSure", a), sure, ok)
			best, ok := impl.AskBest(s.n, s.m, a.answers)
			wantNumber(t, askName("AskBest", a), best, ok, 0)
			for asked := range s.ports() {
				wantNumber(t, askName("AskWorst", a, asked), a.worstOf(t, asked), true, 0)
			}
		}
	}
}

func TestAskOfNoSets(t *testing.T) {
	everyHidden(func(s hiddenSides, g []string, pairs []int) {
		behind := 1 << s.ports()
		for _, set := range []int{-1 << 63, -behind, -2, -1, behind, behind + 1, 2*behind - 1, 2 * behind, 1 << 20, 1 << 32, 1<<32 + 1, 1 << 62, 1<<63 - 1} {
			answers, ok := impl.AskOf(g, set)
			wantNoNumbers(t, name("AskOf", g, set), answers, ok)
		}
	})
}

func TestAskOfNoGrids(t *testing.T) {
	for _, g := range notGrids() {
		for _, set := range []int{-1, 0, 1, 2, 15, 16, 255, 1 << 20} {
			answers, ok := impl.AskOf(g, set)
			wantNoNumbers(t, name("AskOf", g, set), answers, ok)
		}
	}
}

func TestAskOfMoreCells(t *testing.T) {
	for _, sides := range sidesWithMore(askedCells) {
		for _, g := range mixedGrids(sides[0], sides[1], 3) {
			for _, set := range []int{-1, 0, 1, 2, 15, 255, 1<<portsOf(g) - 1, 1 << portsOf(g)} {
				answers, ok := impl.AskOf(g, set)
				wantNoNumbers(t, name("AskOf", g, set), answers, ok)
			}
		}
	}
}

func TestAskingSharesNoMemory(t *testing.T) {
	for _, c := range toldAskings() {
		all := append(slices.Clone(c.answers), 7, 8)
		told := all[:len(c.answers)]
		if c.fit > 0 {
			wantOwnMemory(t, askName("AskFirst", c.asked()), "spoilt", func() ([]string, bool) { return impl.AskFirst(c.n, c.m, told) })
			wantOwnMemory(t, askName("AskSure", c.asked()), "spoilt", func() ([]string, bool) { return impl.AskSure(c.n, c.m, told) })
		}
		impl.AskFit(c.n, c.m, told)
		impl.AskBest(c.n, c.m, told)
		for port := range told {
			impl.AskWorst(c.n, c.m, told, port)
		}
		if !slices.Equal(all, append(slices.Clone(c.answers), 7, 8)) {
			t.Errorf("the answers were changed: %v", all)
		}
	}
}

func TestAskOfSharesNoMemory(t *testing.T) {
	g, all := wholeMemory([]string{"rf", "f."})
	for _, set := range []int{0, 1, 0b10101010, 255} {
		wantOwnMemory(t, "AskOf "+strconv.Itoa(set), -7, func() ([]int, bool) { return impl.AskOf(g, set) })
	}
	if !slices.Equal(all, []string{"rf", "f.", "behind", "more"}) {
		t.Errorf("the grid was changed: %q", all)
	}
}

// Calls at the same time, for the same lists, return the same.
func TestAskingAtOnce(t *testing.T) {
	told := toldAskings()
	var calls sync.WaitGroup
	for range 8 {
		calls.Go(func() {
			for _, c := range told {
				fit, ok := impl.AskFit(c.n, c.m, c.answers)
				wantNumber(t, pairsName("AskFit", c.answers, c.n, c.m), fit, ok, c.fit)
				best, ok := impl.AskBest(c.n, c.m, c.answers)
				wantNumber(t, pairsName("AskBest", c.answers, c.n, c.m), best, ok, c.best)
				if sure, ok := impl.AskSure(c.n, c.m, c.answers); c.fit > 0 {
					wantGrid(t, pairsName("AskSure", c.answers, c.n, c.m), sure, ok, c.sure)
				}
			}
		})
	}
	calls.Wait()
}
