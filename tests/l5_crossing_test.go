package tests

import (
	"slices"
	"strconv"
	"strings"
	"testing"

	"loop.example/mirrorgrids/impl"
)

// pairsName tells a call for a pairing in what a test says.
func pairsName(call string, pairs []int, numbers ...int) string {
	for _, number := range numbers {
		call += " " + strconv.Itoa(number)
	}
	texts := []string{}
	for _, partner := range pairs {
		texts = append(texts, strconv.Itoa(partner))
	}
	return call + " of [" + strings.Join(texts, " ") + "]"
}

// everyCrossing calls check for each of crossGrids with what the tests find of its crossed cells.
func everyCrossing(check func(c crossedCells)) {
	for _, c := range allCrossed() {
		check(c)
	}
}

// turnPairs calls CrossTurn, which must succeed.
func turnPairs(t *testing.T, pairs []int, k int) []int {
	t.Helper()
	turned, ok := impl.CrossTurn(pairs, k)
	if !ok {
		t.Fatalf("%s fails", pairsName("CrossTurn", pairs, k))
	}
	return turned
}

// The grids of the tests have what the promises tell apart.
func TestCrossGrids(t *testing.T) {
	seen := map[string]int{}
	everyCrossing(func(c crossedCells) {
		letters := strings.Join(c.g, "")
		twice := draw(c.g).twice()
		for kind, is := range map[string]bool{
			"no mirrors":              strings.Trim(letters, ".") == "",
			"full":                    !strings.Contains(letters, "."),
			"one cell":                len(c.g) == 1 && len(c.g[0]) == 1,
			"one row":                 len(c.g) == 1 && len(c.g[0]) > 1,
			"one column":              len(c.g) > 1 && len(c.g[0]) == 1,
			"greatest":                len(c.g) == impl.SideMax && len(c.g[0]) == impl.SideMax,
			"a beam crosses itself":   c.oneBeam > 0,
			"a round crosses itself":  c.oneRound > 0,
			"beams cross":             c.beams > 0,
			"beams and rounds cross":  c.mixed > 0,
			"two rounds cross":        c.rounds > 0,
			"rounds meet at a mirror": twice > c.rounds+c.oneRound,
			"each kind of crossing":   c.beams > 0 && c.mixed > 0 && c.rounds > 0,
		} {
			if is {
				seen[kind]++
			}
		}
	})
	for _, kind := range []string{"no mirrors", "full", "one cell", "one row", "one column", "greatest", "a beam crosses itself", "a round crosses itself", "beams cross", "beams and rounds cross", "two rounds cross", "rounds meet at a mirror", "each kind of crossing"} {
		if seen[kind] == 0 {
			t.Errorf("no grid is of the kind: %s", kind)
		}
	}
}

// The pairings of the tests are pairings of all numbers of ports, and those of few ports all there are.
func TestCrossPairings(t *testing.T) {
	many, plain := map[int]int{}, map[int]int{}
	for _, pairs := range samplePairings() {
		many[len(pairs)]++
		if chordsOf(pairs) == 0 {
			plain[len(pairs)]++
		}
	}
	for at, want := range []int{3, 15, 105} {
		if ports := 4 + 2*at; many[ports] != want {
			t.Errorf("%d pairings of %d ports", many[ports], ports)
		}
	}
	for at, want := range []int{2, 5, 14} {
		if ports := 4 + 2*at; plain[ports] != want {
			t.Errorf("no pairs cross in %d pairings of %d ports", plain[ports], ports)
		}
	}
	for ports := 10; ports <= 20; ports += 2 {
		if many[ports] < 30 || plain[ports] == 0 {
			t.Errorf("%d pairings of %d ports, %d without pairs that cross", many[ports], ports, plain[ports])
		}
	}
}

// Promise 41: the partners of the ports of a grid are a pairing, and each one is BeamEnd.
func TestP41BeamPairs(t *testing.T) {
	everyCrossing(func(c crossedCells) {
		pairs := ofGrid(t, "BeamPairs", impl.BeamPairs, c.g)
		if !impl.CrossIn(pairs) {
			t.Errorf("%s does not hold, for %q", pairsName("CrossIn", pairs), c.g)
		}
		if len(pairs) != portsOf(c.g) {
			t.Errorf("%s has %d ports", name("BeamPairs", c.g), len(pairs))
		}
		for port, partner := range pairs {
			end, ok := impl.BeamEnd(c.g, port)
			wantNumber(t, name("BeamEnd", c.g, port), end, ok, partner)
		}
	})
}

// CrossIn holds for all pairings, from 4 to 20 ports.
func TestP41CrossIn(t *testing.T) {
	for _, pairs := range samplePairings() {
		if !impl.CrossIn(pairs) {
			t.Errorf("%s does not hold", pairsName("CrossIn", pairs))
		}
	}
	for _, pairs := range [][]int{{1, 0, 3, 2}, {2, 3, 0, 1}, {3, 2, 1, 0}, neighbours(20), nested(20), across(20)} {
		if !impl.CrossIn(pairs) {
			t.Errorf("%s does not hold", pairsName("CrossIn", pairs))
		}
	}
}

// holdsFor counts the lists of a length, of numbers from least to greatest, for which CrossIn holds, and checks that they are pairings.
func holdsFor(t *testing.T, pairings [][]int, list []int, length, least, greatest int) int {
	t.Helper()
	if len(list) < length {
		holds := 0
		for number := least; number <= greatest; number++ {
			holds += holdsFor(t, pairings, append(slices.Clone(list), number), length, least, greatest)
		}
		return holds
	}
	if !impl.CrossIn(list) {
		return 0
	}
	if !slices.ContainsFunc(pairings, func(pairs []int) bool { return slices.Equal(pairs, list) }) {
		t.Errorf("%s holds", pairsName("CrossIn", list))
	}
	return 1
}

func TestP41AllLists(t *testing.T) {
	for _, c := range []struct{ length, least, greatest, want int }{
		{0, 0, 0, 0},
		{1, -1, 3, 0},
		{2, -1, 3, 0},
		{3, -1, 4, 0},
		{4, -2, 6, 3},
		{5, -1, 5, 0},
		{6, 0, 6, 15},
	} {
		pairings := allPairings(c.length + c.length%2)
		wantNumber(t, "the number of pairings of "+strconv.Itoa(c.length), holdsFor(t, pairings, nil, c.length, c.least, c.greatest), true, c.want)
	}
}

// A pairing with one number changed, or with one more or one less, is none.
func TestP41Spoilt(t *testing.T) {
	for _, pairs := range append(allPairings(6), neighbours(4), nested(4), neighbours(20), nested(20), across(20)) {
		for port, partner := range pairs {
			for _, number := range append(someNumbers(), 7, 8, 9, 10, 18, 19, 20, 21) {
				spoilt := slices.Clone(pairs)
				spoilt[port] = number
				if number != partner && impl.CrossIn(spoilt) {
					t.Errorf("%s holds", pairsName("CrossIn", spoilt))
				}
			}
		}
		for _, spoilt := range [][]int{pairs[1:], pairs[:len(pairs)-1], append(slices.Clone(pairs), len(pairs)), append(slices.Clone(pairs), 0)} {
			if impl.CrossIn(spoilt) {
				t.Errorf("%s holds", pairsName("CrossIn", spoilt))
			}
		}
	}
}

func TestP41NoPairings(t *testing.T) {
	for _, list := range notPairings() {
		if impl.CrossIn(list) {
			t.Errorf("%s holds", pairsName("CrossIn", list))
		}
	}
}

// Promise 42: two beams cross as often from the other sides, and an odd number of times exactly if their ports lie by turns.
func TestP42CrossBetween(t *testing.T) {
	odd, even := 0, 0
	everyTwoBeams(func(g []string, p, q int, want, other followed) {
		crosses, ok := impl.CrossBetween(g, p, q)
		if q == p || q == want.end {
			wantNoNumber(t, name("CrossBetween", g, p, q), crosses, ok)
			return
		}
		wantNumber(t, name("CrossBetween", g, p, q), crosses, ok, want.crosses(g, other))
		back, ok := impl.CrossBetween(g, q, p)
		wantNumber(t, name("CrossBetween", g, q, p), back, ok, crosses)
		ends, ok := impl.CrossBetween(g, want.end, other.end)
		wantNumber(t, name("CrossBetween", g, want.end, other.end), ends, ok, crosses)
		byTurns := between(q, p, want.end) != between(other.end, p, want.end)
		if (crosses%2 != 0) != byTurns {
			t.Errorf("%s is %d, of the beams %d to %d and %d to %d", name("CrossBetween", g, p, q), crosses, p, want.end, q, other.end)
		}
		if byTurns {
			odd++
		} else if crosses > 0 {
			even++
		}
	})
	if odd == 0 || even == 0 {
		t.Errorf("beams cross an odd number of times %d times, and an even one %d times", odd, even)
	}
}

func TestP42BetweenTold(t *testing.T) {
	for _, c := range []struct {
		g          []string
		p, q, want int
	}{
		{[]string{"."}, 0, 1, 1},
		{[]string{"."}, 3, 2, 1},
		{[]string{"r"}, 0, 1, 0},
		{[]string{"f"}, 0, 2, 0},
		{[]string{"....."}, 0, 5, 1},
		{[]string{"....."}, 0, 4, 0},
		{[]string{".", ".", ".", ".", "."}, 6, 3, 1},
		{[]string{".r"}, 0, 1, 1},
		{[]string{".f", "f."}, 7, 0, 2},
		{[]string{".f", "f."}, 1, 0, 0},
		{[]string{"rf", "r."}, 4, 3, 1},
		{crossingGrid, 7, 1, 0},
		{wovenGrid, 5, 1, 3},
		{wovenGrid, 10, 7, 3},
		{[]string{".rf", "r..", "f.."}, 6, 4, 4},
		{ringedGrid, 1, 4, 1},
		{ringedGrid, 1, 0, 0},
		{borderRound, 1, 12, 0},
		{borderRound, 1, 7, 1},
		{gridOfLetters(strings.Repeat(".", 25), 5), 4, 19, 1},
	} {
		crosses, ok := impl.CrossBetween(c.g, c.p, c.q)
		wantNumber(t, name("CrossBetween", c.g, c.p, c.q), crosses, ok, c.want)
	}
}

// One beam, told by both of its ends or by one of them twice, is not two that cross, even if it crosses itself.
func TestP42OneBeam(t *testing.T) {
	for _, g := range append(mixedSizes(), []string{"."}, []string{"r"}, crossingGrid, touchingGrid, knottedGrid, borderRound, gridOfLetters(strings.Repeat(".", 25), 5)) {
		for port := range portsOf(g) {
			end := follow(g, port).end
			for _, q := range []int{port, end} {
				crosses, ok := impl.CrossBetween(g, port, q)
				wantNoNumber(t, name("CrossBetween", g, port, q), crosses, ok)
			}
		}
	}
}

// Promise 43: a beam crosses itself no more often than it goes through cells twice, as often from its other end, and not at all without mirrors.
func TestP43CrossSelf(t *testing.T) {
	fewer, straight := 0, 0
	everyBeam(func(g []string, port int, want followed) {
		self, ok := impl.CrossSelf(g, port)
		wantNumber(t, name("CrossSelf", g, port), self, ok, want.crossesSelf(g))
		twice := ofBeam(t, "BeamTwice", impl.BeamTwice, g, port)
		if self > twice {
			t.Errorf("%s is %d, but BeamTwice %d", name("CrossSelf", g, port), self, twice)
		}
		back, ok := impl.CrossSelf(g, want.end)
		wantNumber(t, name("CrossSelf", g, want.end), back, ok, self)
		if self > 0 && self < twice {
			fewer++
		}
		if strings.Trim(strings.Join(g, ""), ".") == "" {
			straight++
			wantNumber(t, name("CrossSelf", g, port), self, ok, 0)
			wantNumber(t, name("BeamTwice", g, port), twice, ok, 0)
		}
	})
	if fewer == 0 || straight == 0 {
		t.Errorf("%d beams cross themselves and meet both sides of a mirror, and %d are of grids without mirrors", fewer, straight)
	}
}

func TestP43SelvesTold(t *testing.T) {
	for _, c := range []struct {
		g          []string
		port, want int
	}{
		{[]string{"."}, 0, 0},
		{[]string{"r"}, 3, 0},
		{[]string{"....."}, 5, 0},
		{[]string{".....", "....."}, 6, 0},
		{crossingGrid, 7, 1},
		{crossingGrid, 0, 1},
		{crossingGrid, 1, 0},
		{touchingGrid, 7, 0},
		{[]string{"rf", "f."}, 3, 1},
		{[]string{"rf", "rr"}, 5, 0},
		{[]string{"rfrf", "f..r"}, 7, 2},
		{[]string{"rrf", "f.r"}, 1, 1},
		{wovenGrid, 5, 1},
		{wovenGrid, 1, 0},
		{knottedGrid, 1, 3},
		{knottedGrid, 10, 3},
		{chainRound, 0, 0},
	} {
		self, ok := impl.CrossSelf(c.g, c.port)
		wantNumber(t, name("CrossSelf", c.g, c.port), self, ok, c.want)
	}
}

// Promise 44: a pairing can be turned by 1, and is one then.
func TestP44CrossIn(t *testing.T) {
	for _, pairs := range samplePairings() {
		turned, ok := impl.CrossTurn(pairs, 1)
		wantNumbers(t, pairsName("CrossTurn", pairs, 1), turned, ok, turnedOnce(pairs)...)
		if !impl.CrossIn(turned) {
			t.Errorf("%s holds, but not %s", pairsName("CrossIn", pairs), pairsName("CrossIn", turned))
		}
	}
}

// Promise 45: as many pairs cross when the ports are turned by 3, and no more than there are.
func TestP45CrossChords(t *testing.T) {
	for _, pairs := range samplePairings() {
		chords, ok := impl.CrossChords(pairs)
		wantNumber(t, pairsName("CrossChords", pairs), chords, ok, chordsOf(pairs))
		turned := turnPairs(t, pairs, 3)
		again, ok := impl.CrossChords(turned)
		wantNumber(t, pairsName("CrossChords", turned), again, ok, chords)
		if half := len(pairs) / 2; chords > half*(half-1)/2 {
			t.Errorf("%s is %d", pairsName("CrossChords", pairs), chords)
		}
	}
}

func TestP45ChordsTold(t *testing.T) {
	for _, c := range []struct {
		pairs []int
		want  int
	}{
		{[]int{1, 0, 3, 2}, 0},
		{[]int{3, 2, 1, 0}, 0},
		{[]int{2, 3, 0, 1}, 1},
		{[]int{3, 4, 5, 0, 1, 2}, 3},
		{[]int{2, 4, 0, 5, 1, 3}, 2},
		{[]int{1, 0, 4, 5, 2, 3}, 1},
		{[]int{5, 3, 4, 1, 2, 0}, 1},
		{[]int{2, 3, 0, 1, 6, 7, 4, 5}, 2},
		{neighbours(20), 0},
		{nested(20), 0},
		{across(18), 36},
		{across(20), 45},
	} {
		chords, ok := impl.CrossChords(c.pairs)
		wantNumber(t, pairsName("CrossChords", c.pairs), chords, ok, c.want)
	}
}

// Promise 46: paths cross at empty cells alone, at all at which beams do, and at an even number of others.
func TestP46CrossTotal(t *testing.T) {
	others := 0
	everyCrossing(func(c crossedCells) {
		total, ok := impl.CrossTotal(c.g)
		wantNumber(t, name("CrossTotal", c.g), total, ok, c.all())
		beams := ofGrid(t, "CrossBeams", impl.CrossBeams, c.g)
		empties := strings.Count(strings.Join(c.g, ""), ".")
		if total > empties || total < beams || (total-beams)%2 != 0 {
			t.Errorf("%s is %d with %d empty cells, and CrossBeams is %d", name("CrossTotal", c.g), total, empties, beams)
		}
		others += total - beams
	})
	if others == 0 {
		t.Error("beams alone cross")
	}
}

func TestP46P47P49CrossingsTold(t *testing.T) {
	for _, c := range []struct {
		g                    []string
		total, beams, rounds int
	}{
		{[]string{"."}, 1, 1, 0},
		{[]string{"r"}, 0, 0, 0},
		{[]string{"....."}, 5, 5, 0},
		{[]string{".", ".", "f", ".", "."}, 4, 4, 0},
		{[]string{"..", ".."}, 4, 4, 0},
		{[]string{"rf", "fr"}, 0, 0, 0},
		{[]string{".f", "f."}, 2, 2, 0},
		{crossingGrid, 0, 0, 0},
		{touchingGrid, 0, 0, 0},
		{[]string{"rf", "f."}, 0, 0, 0},
		{throughMiddle, 5, 3, 0},
		{ringedGrid, 5, 1, 0},
		{crossingRound, 2, 2, 0},
		{touchingRound, 2, 2, 0},
		{meetingRounds, 2, 2, 0},
		{crossingRounds, 8, 2, 2},
		{crossedRounds, 17, 5, 4},
		{borderRound, 21, 9, 0},
		{chainRound, 12, 12, 0},
		{gridOfLetters(strings.Repeat(".", 25), 5), 25, 25, 0},
		{gridOfLetters(strings.Repeat("f", 25), 5), 0, 0, 0},
		{gridOfLetters(checkered(5, 5), 5), 0, 0, 0},
	} {
		total, ok := impl.CrossTotal(c.g)
		wantNumber(t, name("CrossTotal", c.g), total, ok, c.total)
		beams, ok := impl.CrossBeams(c.g)
		wantNumber(t, name("CrossBeams", c.g), beams, ok, c.beams)
		rounds, ok := impl.CrossRounds(c.g)
		wantNumber(t, name("CrossRounds", c.g), rounds, ok, c.rounds)
	}
}

// Promise 47: beams cross an odd number of times exactly if an odd number of pairs do, and in full grids neither do.
func TestP47CrossBeams(t *testing.T) {
	full, more := 0, 0
	everyCrossing(func(c crossedCells) {
		beams, ok := impl.CrossBeams(c.g)
		wantNumber(t, name("CrossBeams", c.g), beams, ok, c.beams)
		pairs := ofGrid(t, "BeamPairs", impl.BeamPairs, c.g)
		chords, ok := impl.CrossChords(pairs)
		wantNumber(t, pairsName("CrossChords", pairs), chords, ok, chordsOf(pairs))
		if (beams-chords)%2 != 0 {
			t.Errorf("%s is %d, and %d pairs cross", name("CrossBeams", c.g), beams, chords)
		}
		if beams > chords {
			more++
		}
		if !strings.Contains(strings.Join(c.g, ""), ".") {
			full++
			wantNumber(t, name("CrossBeams", c.g), beams, true, 0)
			wantNumber(t, name("CrossChords", c.g), chords, true, 0)
		}
	})
	if full == 0 || more == 0 {
		t.Errorf("%d full grids, and %d whose beams cross more often than their pairs", full, more)
	}
}

// What CrossBetween tells of each two beams adds up to CrossBeams.
func TestP47SumOfBeams(t *testing.T) {
	for _, g := range append(mixedSizes(), crossingGrid, wovenGrid, knottedGrid, ringedGrid, crossingRounds, crossedRounds, chainRound, borderRound, gridOfLetters(strings.Repeat(".", 25), 5)) {
		all := 0
		for p := range portsOf(g) {
			for q := range p {
				if crosses, ok := impl.CrossBetween(g, p, q); ok {
					all += crosses
				}
			}
		}
		beams, ok := impl.CrossBeams(g)
		wantNumber(t, "4 times "+name("CrossBeams", g), 4*beams, ok, all)
	}
}

// Promise 48: turning a pairing by what is left to the number of ports leads back.
func TestP48CrossTurn(t *testing.T) {
	for _, pairs := range samplePairings() {
		want := pairs
		for k := range 21 {
			turned, ok := impl.CrossTurn(pairs, k)
			wantNumbers(t, pairsName("CrossTurn", pairs, k), turned, ok, want...)
			left := len(pairs) - k%len(pairs)
			back, ok := impl.CrossTurn(turned, left)
			wantNumbers(t, pairsName("CrossTurn", turned, left), back, ok, pairs...)
			want = turnedOnce(want)
		}
	}
}

// Turned by 0, and all round once or more often, a pairing stays.
func TestP48AllRound(t *testing.T) {
	for _, pairs := range samplePairings() {
		for k := 0; k <= 20; k += len(pairs) {
			turned, ok := impl.CrossTurn(pairs, k)
			wantNumbers(t, pairsName("CrossTurn", pairs, k), turned, ok, pairs...)
		}
	}
}

func TestP48TurnsTold(t *testing.T) {
	for _, c := range []struct {
		pairs []int
		k     int
		want  []int
	}{
		{[]int{1, 0, 3, 2}, 0, []int{1, 0, 3, 2}},
		{[]int{1, 0, 3, 2}, 1, []int{3, 2, 1, 0}},
		{[]int{1, 0, 3, 2}, 4, []int{1, 0, 3, 2}},
		{[]int{1, 0, 3, 2}, 19, []int{3, 2, 1, 0}},
		{[]int{1, 0, 3, 2}, 20, []int{1, 0, 3, 2}},
		{[]int{2, 3, 0, 1}, 3, []int{2, 3, 0, 1}},
		{[]int{1, 0, 4, 5, 2, 3}, 1, []int{4, 2, 1, 5, 0, 3}},
		{[]int{1, 0, 4, 5, 2, 3}, 2, []int{4, 5, 3, 2, 0, 1}},
		{[]int{1, 0, 4, 5, 2, 3}, 5, []int{5, 3, 4, 1, 2, 0}},
		{[]int{1, 0, 4, 5, 2, 3}, 20, []int{4, 5, 3, 2, 0, 1}},
		{neighbours(20), 20, neighbours(20)},
		{across(20), 7, across(20)},
		{nested(20), 10, nested(20)},
	} {
		turned, ok := impl.CrossTurn(c.pairs, c.k)
		wantNumbers(t, pairsName("CrossTurn", c.pairs, c.k), turned, ok, c.want...)
	}
}

func TestP48NoTurns(t *testing.T) {
	for _, pairs := range [][]int{neighbours(4), across(6), nested(18), neighbours(20), across(20)} {
		for _, k := range append(someNumbers(), -20, -4, 19, 20, 21, 22, 40, 1<<32, 1<<32+1) {
			turned, ok := impl.CrossTurn(pairs, k)
			if k < 0 || k > 20 {
				wantNoNumbers(t, pairsName("CrossTurn", pairs, k), turned, ok)
			} else if !ok {
				t.Errorf("%s fails", pairsName("CrossTurn", pairs, k))
			}
		}
	}
}

// Promise 49: two rounds cross at an even number of cells, where rounds alone go and no beams cross.
func TestP49CrossRounds(t *testing.T) {
	some := 0
	everyCrossing(func(c crossedCells) {
		rounds, ok := impl.CrossRounds(c.g)
		wantNumber(t, name("CrossRounds", c.g), rounds, ok, c.rounds)
		twice := ofGrid(t, "RoundTwice", impl.RoundTwice, c.g)
		if rounds%2 != 0 || rounds > twice {
			t.Errorf("%s is %d, and RoundTwice is %d", name("CrossRounds", c.g), rounds, twice)
		}
		beams := ofGrid(t, "CrossBeams", impl.CrossBeams, c.g)
		if total := ofGrid(t, "CrossTotal", impl.CrossTotal, c.g); rounds+beams > total {
			t.Errorf("%s is %d, CrossBeams %d and CrossTotal %d", name("CrossRounds", c.g), rounds, beams, total)
		}
		some += rounds
	})
	if some == 0 {
		t.Error("no two rounds cross")
	}
}

// wantNoCrosses checks that each function of ports fails for a list and a port.
func wantNoCrosses(t *testing.T, g []string, port int) {
	t.Helper()
	for call, f := range map[string]func([]string, int) (int, bool){
		"CrossSelf":               impl.CrossSelf,
		"CrossBetween, the first": func(g []string, port int) (int, bool) { return impl.CrossBetween(g, port, 1) },
		"CrossBetween, the last":  func(g []string, port int) (int, bool) { return impl.CrossBetween(g, 1, port) },
		"CrossBetween, both":      func(g []string, port int) (int, bool) { return impl.CrossBetween(g, port, port) },
	} {
		got, ok := f(g, port)
		wantNoNumber(t, name(call, g, port), got, ok)
	}
}

func TestCrossingsOfNoGrids(t *testing.T) {
	for _, g := range notGrids() {
		for _, port := range []int{-1, 0, 1, 2, 3, 4, 20} {
			wantNoCrosses(t, g, port)
		}
		for call, f := range map[string]func([]string) (int, bool){
			"CrossTotal":  impl.CrossTotal,
			"CrossBeams":  impl.CrossBeams,
			"CrossRounds": impl.CrossRounds,
		} {
			got, ok := f(g)
			wantNoNumber(t, name(call, g), got, ok)
		}
	}
}

func TestCrossingsOfNoPorts(t *testing.T) {
	for _, g := range append(mixedSizes(), []string{"r"}, []string{"."}, crossingGrid, knottedGrid, gridOfLetters(strings.Repeat(".", 25), 5)) {
		for _, port := range append(someNumbers(), portsOf(g), portsOf(g)+1) {
			if port < 0 || port >= portsOf(g) {
				wantNoCrosses(t, g, port)
			}
		}
	}
}

func TestCrossingsOfNoPairings(t *testing.T) {
	for _, list := range notPairings() {
		chords, ok := impl.CrossChords(list)
		wantNoNumber(t, pairsName("CrossChords", list), chords, ok)
		for _, k := range []int{-1, 0, 1, 4, 20, 21} {
			turned, ok := impl.CrossTurn(list, k)
			wantNoNumbers(t, pairsName("CrossTurn", list, k), turned, ok)
		}
	}
}

func TestCrossingsShareNoMemory(t *testing.T) {
	for _, pairs := range [][]int{{1, 0, 4, 5, 2, 3}, neighbours(4), nested(20)} {
		all := append(slices.Clone(pairs), 7, 8)
		told := all[:len(pairs)]
		for _, k := range []int{0, 1, len(pairs), 20} {
			wantOwnMemory(t, pairsName("CrossTurn", pairs, k), -7, func() ([]int, bool) { return impl.CrossTurn(told, k) })
		}
		impl.CrossIn(told)
		impl.CrossChords(told)
		if !slices.Equal(all, append(slices.Clone(pairs), 7, 8)) {
			t.Errorf("the pairing %v was changed: %v", pairs, all)
		}
	}
	g, rest := wholeMemory([]string{".f", "fr"})
	for port := range portsOf(g) {
		impl.CrossBetween(g, port, 7)
		impl.CrossSelf(g, port)
	}
	impl.CrossTotal(g)
	impl.CrossBeams(g)
	impl.CrossRounds(g)
	if !slices.Equal(rest, []string{".f", "fr", "behind", "more"}) {
		t.Errorf("the grid was changed: %q", rest)
	}
}
