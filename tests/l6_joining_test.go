package tests

import (
	"slices"
	"strconv"
	"strings"
	"testing"

	"loop.example/mirrorgrids/impl"
)

// sidesName tells a call for a pairing of rows and columns in what a test says.
func sidesName(call string, p ofSides) string {
	return pairsName(call, p.pairs, p.n, p.m)
}

// joinName tells a call for two pairings in what a test says.
func joinName(call string, j twoPairings) string {
	return sidesName(call, j.left) + sidesName(" and", j.right)
}

// joinPairs calls JoinPairs for two pairings.
func (j twoPairings) joinPairs() ([]int, bool) {
	return impl.JoinPairs(j.left.n, j.left.m, j.left.pairs, j.right.m, j.right.pairs)
}

// joinRounds calls JoinRounds for two pairings.
func (j twoPairings) joinRounds() (int, bool) {
	return impl.JoinRounds(j.left.n, j.left.m, j.left.pairs, j.right.m, j.right.pairs)
}

// joinTwo calls JoinPairs and JoinRounds for two pairings, which must succeed.
func joinTwo(t *testing.T, j twoPairings) (ofSides, int) {
	t.Helper()
	pairs, ok := j.joinPairs()
	rounds, too := j.joinRounds()
	if !ok || !too {
		t.Fatalf("%s succeeds: %v, and JoinRounds: %v", joinName("JoinPairs", j), ok, too)
	}
	return ofSides{j.left.n, j.left.m + j.right.m, pairs}, rounds
}

// flipPairs calls JoinFlip, which must succeed.
func flipPairs(t *testing.T, p ofSides) ofSides {
	t.Helper()
	flipped, ok := impl.JoinFlip(p.n, p.m, p.pairs)
	if !ok {
		t.Fatalf("%s fails", sidesName("JoinFlip", p))
	}
	return ofSides{p.n, p.m, flipped}
}

// closePairs calls JoinClose, which must succeed.
func closePairs(t *testing.T, p ofSides) int {
	t.Helper()
	rounds, ok := impl.JoinClose(p.n, p.m, p.pairs)
	if !ok {
		t.Fatalf("%s fails", sidesName("JoinClose", p))
	}
	return rounds
}

// flipBoth returns two pairings as they are seen from behind, found by JoinFlip.
func flipBoth(t *testing.T, j twoPairings) twoPairings {
	t.Helper()
	return twoPairings{flipPairs(t, j.right), flipPairs(t, j.left)}
}

// gridSides returns the pairing of a grid by BeamPairs.
func gridSides(t *testing.T, g []string) ofSides {
	t.Helper()
	return ofSides{len(g), len(g[0]), ofGrid(t, "BeamPairs", impl.BeamPairs, g)}
}

// madeByGrid reports whether a pairing is that of one of some grids.
func madeByGrid(pairs []int, grids [][]string) bool {
	return slices.ContainsFunc(grids, func(g []string) bool { return slices.Equal(followedPairs(g), pairs) })
}

// The joins of the tests have what the promises tell apart.
func TestJoinSamples(t *testing.T) {
	seen := map[string]int{}
	everyJoin(func(j twoPairings) {
		n, columns := j.left.n, j.left.m+j.right.m
		pairs, rounds := j.sewn()
		closed := ofSides{n, columns, pairs}.closed()
		for kind, is := range map[string]bool{
			"one row to one row":        n == 1,
			"one cell to one cell":      n == 1 && columns == 2,
			"one column to one column":  n > 1 && columns == 2,
			"as many columns as can be": columns == impl.SideMax,
			"greatest":                  n == impl.SideMax && columns == impl.SideMax,
			"no rounds":                 n > 1 && rounds == 0,
			"one round":                 rounds == 1,
			"two rounds":                rounds == 2,
			"closed without rounds":     closed == 0,
			"closed with most rounds":   n == impl.SideMax && closed == n,
			"rounds both ways":          rounds > 0 && closed > 0,
			"pairs cross":               chordsOf(pairs) > 0,
			"no pairs cross":            chordsOf(pairs) == 0 && n > 1,
		} {
			if is {
				seen[kind]++
			}
		}
	})
	for _, kind := range []string{"one row to one row", "one cell to one cell", "one column to one column", "as many columns as can be", "greatest", "no rounds", "one round", "two rounds", "closed without rounds", "closed with most rounds", "rounds both ways", "pairs cross", "no pairs cross"} {
		if seen[kind] == 0 {
			t.Errorf("no join is of the kind: %s", kind)
		}
	}
	for _, size := range [][2]int{{1, 2}, {2, 1}, {1, 3}, {2, 2}} {
		grids, none := allGrids(size[0], size[1]), 0
		for _, p := range pairingsOf(size[0], size[1]) {
			if !madeByGrid(p.pairs, grids) {
				none++
			}
		}
		if none == 0 {
			t.Errorf("grids of %d rows and %d columns have all pairings", size[0], size[1])
		}
	}
}

// Promise 50: the pairing of a grid turned is its pairing turned.
func TestP50JoinTurn(t *testing.T) {
	for _, g := range roundGrids() {
		p := gridSides(t, g)
		turned, ok := impl.JoinTurn(p.n, p.m, p.pairs)
		wantNumbers(t, name("JoinTurn", g), turned, ok, followedPairs(turn(t, g))...)
		want := gridSides(t, turn(t, g))
		wantNumbers(t, name("JoinTurn", g), turned, ok, want.pairs...)
	}
}

// Promise 51: what joins two pairings is one, and flipped it joins both flipped, the second one first.
func TestP51JoinPairs(t *testing.T) {
	everyJoin(func(j twoPairings) {
		want, _ := j.sewn()
		pairs, ok := j.joinPairs()
		wantNumbers(t, joinName("JoinPairs", j), pairs, ok, want...)
		if !impl.CrossIn(pairs) {
			t.Errorf("%s is no pairing: %v", joinName("JoinPairs", j), pairs)
		}
		whole, _ := joinTwo(t, j)
		behind, ok := flipBoth(t, j).joinPairs()
		wantNumbers(t, joinName("flipped, JoinPairs", j), behind, ok, flipPairs(t, whole).pairs...)
	})
}

func TestP51JoinsTold(t *testing.T) {
	for _, c := range []struct {
		n, m int
		a    []int
		k    int
		b    []int
		want []int
	}{
		{1, 1, []int{2, 3, 0, 1}, 1, []int{1, 0, 3, 2}, []int{4, 2, 1, 5, 0, 3}},
		{1, 1, []int{2, 3, 0, 1}, 1, []int{2, 3, 0, 1}, []int{4, 3, 5, 1, 0, 2}},
		{1, 1, []int{3, 2, 1, 0}, 1, []int{1, 0, 3, 2}, []int{5, 2, 1, 4, 3, 0}},
		{1, 1, []int{1, 0, 3, 2}, 1, []int{3, 2, 1, 0}, []int{1, 0, 3, 2, 5, 4}},
		{1, 2, []int{3, 4, 5, 0, 1, 2}, 1, []int{2, 3, 0, 1}, []int{5, 6, 4, 7, 2, 0, 1, 3}},
		{1, 1, []int{2, 3, 0, 1}, 2, []int{3, 4, 5, 0, 1, 2}, []int{6, 4, 5, 7, 1, 2, 0, 3}},
		{2, 1, []int{5, 2, 1, 4, 3, 0}, 1, []int{1, 0, 3, 2, 5, 4}, []int{7, 2, 1, 4, 3, 6, 5, 0}},
		{2, 1, []int{3, 5, 4, 0, 2, 1}, 1, []int{3, 5, 4, 0, 2, 1}, []int{5, 4, 7, 6, 1, 0, 3, 2}},
		{2, 1, []int{3, 4, 5, 0, 1, 2}, 1, []int{3, 4, 5, 0, 1, 2}, []int{5, 4, 7, 6, 1, 0, 3, 2}},
		{2, 1, []int{5, 2, 1, 4, 3, 0}, 1, []int{4, 2, 1, 5, 0, 3}, []int{7, 4, 3, 2, 1, 6, 5, 0}},
		{2, 1, []int{3, 2, 1, 0, 5, 4}, 1, []int{3, 2, 1, 0, 5, 4}, []int{5, 4, 3, 2, 1, 0, 7, 6}},
	} {
		pairs, ok := impl.JoinPairs(c.n, c.m, c.a, c.k, c.b)
		wantNumbers(t, joinName("JoinPairs", twoPairings{ofSides{c.n, c.m, c.a}, ofSides{c.n, c.k, c.b}}), pairs, ok, c.want...)
	}
}

// All pairings of one row: light that comes to the right end of the first one goes on in the second one and leaves there, or as well the other way.
func TestP51OneRow(t *testing.T) {
	joins := 0
	for m := 1; m < impl.SideMax; m++ {
		for k := 1; m+k <= impl.SideMax; k++ {
			for _, left := range pairingsOf(1, m) {
				for _, right := range pairingsOf(1, k) {
					j := twoPairings{left, right}
					ahead, behind := left.pairs[m], right.pairs[2*k+1]
					if ahead > m { // the ports behind the right end stand 2 k further on
						ahead += 2 * k
					}
					whole, rounds := joinTwo(t, j)
					if whole.pairs[ahead] != m+behind || whole.pairs[m+behind] != ahead {
						t.Errorf("%s is %v, but joins %d and %d", joinName("JoinPairs", j), whole.pairs, ahead, m+behind)
					}
					wantNumber(t, joinName("JoinRounds", j), rounds, true, 0)
					joins++
				}
			}
		}
	}
	wantNumber(t, "the number of joins", joins, true, 3*3+2*3*15+2*3*105+15*15+2*3*945+2*15*105)
}

// Three pairings come to the same, whichever two are joined first.
func TestP51ThreePairings(t *testing.T) {
	for n := 1; n <= impl.SideMax; n++ {
		for _, columns := range [][3]int{{1, 1, 1}, {1, 2, 1}, {2, 1, 2}, {3, 1, 1}, {1, 1, 3}} {
			pieces := [3][]ofSides{}
			for at, m := range columns {
				pieces[at] = pairingsOf(n, m)
			}
			for at := range 60 {
				first, second, third := pieces[0][at%len(pieces[0])], pieces[1][at*7%len(pieces[1])], pieces[2][at*11%len(pieces[2])]
				left, leftRounds := joinTwo(t, twoPairings{first, second})
				right, rightRounds := joinTwo(t, twoPairings{second, third})
				one, oneRounds := joinTwo(t, twoPairings{left, third})
				another, otherRounds := joinTwo(t, twoPairings{first, right})
				wantNumbers(t, sidesName("joining to", left), one.pairs, true, another.pairs...)
				wantNumber(t, sidesName("the rounds of joining to", left), leftRounds+oneRounds, true, rightRounds+otherRounds)
			}
		}
	}
}

// Promise 52: each round that comes by joining has two rows at least, and comes for both flipped and exchanged.
func TestP52JoinRounds(t *testing.T) {
	everyJoin(func(j twoPairings) {
		_, want := j.sewn()
		rounds, ok := j.joinRounds()
		wantNumber(t, joinName("JoinRounds", j), rounds, ok, want)
		if 2*rounds > j.left.n {
			t.Errorf("%s is %d", joinName("JoinRounds", j), rounds)
		}
		behind, ok := flipBoth(t, j).joinRounds()
		wantNumber(t, joinName("flipped, JoinRounds", j), behind, ok, rounds)
	})
}

func TestP52RoundsTold(t *testing.T) {
	for _, c := range []struct {
		n, m int
		a    []int
		k    int
		b    []int
		want int
	}{
		{1, 1, []int{2, 3, 0, 1}, 1, []int{2, 3, 0, 1}, 0},
		{1, 1, []int{3, 2, 1, 0}, 1, []int{1, 0, 3, 2}, 0},
		{1, 2, []int{3, 4, 5, 0, 1, 2}, 3, neighbours(8), 0},
		{2, 1, []int{5, 2, 1, 4, 3, 0}, 1, []int{1, 0, 3, 2, 5, 4}, 1},
		{2, 1, []int{1, 0, 3, 2, 5, 4}, 1, []int{5, 2, 1, 4, 3, 0}, 0},
		{2, 1, []int{3, 2, 1, 0, 5, 4}, 1, []int{3, 2, 1, 0, 5, 4}, 1},
		{2, 1, []int{3, 5, 4, 0, 2, 1}, 1, []int{3, 2, 1, 0, 5, 4}, 0},
		{3, 2, neighbours(10), 2, neighbours(10), 1},
		{4, 2, neighbours(12), 1, turnedOnce(neighbours(10)), 0},
		{4, 2, neighbours(12), 2, neighbours(12), 2},
		{4, 2, nested(12), 1, turnedOnce(neighbours(10)), 0},
		{4, 1, []int{9, 3, 4, 1, 2, 6, 5, 8, 7, 0}, 1, []int{1, 0, 3, 2, 5, 4, 8, 9, 6, 7}, 2},
		{4, 1, []int{9, 2, 1, 4, 3, 6, 5, 8, 7, 0}, 1, []int{1, 0, 3, 2, 5, 4, 8, 9, 6, 7}, 1},
		{5, 2, neighbours(14), 2, neighbours(14), 2},
		{5, 2, neighbours(14), 2, nested(14), 0},
		{5, 2, []int{7, 8, 3, 2, 5, 4, 9, 0, 1, 6, 11, 10, 13, 12}, 2, []int{7, 8, 3, 2, 5, 4, 9, 0, 1, 6, 11, 10, 13, 12}, 2},
		{5, 2, []int{7, 8, 3, 2, 5, 4, 9, 0, 1, 6, 11, 10, 13, 12}, 3, []int{9, 10, 15, 4, 3, 6, 5, 8, 7, 0, 1, 12, 11, 14, 13, 2}, 0},
		{5, 2, []int{7, 8, 3, 2, 5, 4, 9, 0, 1, 6, 11, 10, 13, 12}, 3, []int{9, 10, 11, 4, 3, 6, 5, 8, 7, 0, 1, 2, 13, 12, 15, 14}, 2},
	} {
		rounds, ok := impl.JoinRounds(c.n, c.m, c.a, c.k, c.b)
		wantNumber(t, joinName("JoinRounds", twoPairings{ofSides{c.n, c.m, c.a}, ofSides{c.n, c.k, c.b}}), rounds, ok, c.want)
	}
}

// checkJoined checks the pairs and rounds of two grids beside each other, and returns the rounds of each one and those that come.
func checkJoined(t *testing.T, g, h []string) [3]int {
	t.Helper()
	whole, ok := impl.GridBeside(g, h)
	must(t, ok, "GridBeside", g)
	j := twoPairings{gridSides(t, g), gridSides(t, h)}
	pairs, ok := j.joinPairs()
	wantNumbers(t, name("JoinPairs", whole, len(g[0])), pairs, ok, ofGrid(t, "BeamPairs", impl.BeamPairs, whole)...)
	rounds, ok := j.joinRounds()
	first, second := ofGrid(t, "RoundMany", impl.RoundMany, g), ofGrid(t, "RoundMany", impl.RoundMany, h)
	wantNumber(t, name("JoinRounds", whole, len(g[0])), rounds, ok, ofGrid(t, "RoundMany", impl.RoundMany, whole)-first-second)
	return [3]int{first, second, rounds}
}

// Promise 53: the beams of two grids beside each other are the joined ones, and the rounds those of both and those that come.
func TestP53GridBeside(t *testing.T) {
	seen := map[[3]bool]int{}
	for _, g := range append(roundGrids(), ringedGrid, crossedRounds) {
		for at := 1; at < len(g[0]); at++ {
			left, right := cut(g, at)
			rounds := checkJoined(t, left, right)
			seen[[3]bool{rounds[0] > 0, rounds[1] > 0, rounds[2] > 0}]++
		}
	}
	for _, kind := range [][3]bool{{}, {true, true, false}, {false, false, true}, {true, true, true}, {true, false, true}, {false, true, true}} {
		if seen[kind] == 0 {
			t.Errorf("no rounds are of the first one, of the second one and by joining: %v", kind)
		}
	}
}

// All grids of one row and at most 2 columns each, and all of 2 rows and 1 column.
func TestP53SmallGrids(t *testing.T) {
	for _, c := range []struct{ n, m, k int }{{1, 1, 1}, {1, 1, 2}, {1, 2, 1}, {1, 2, 2}, {2, 1, 1}} {
		for _, g := range allGrids(c.n, c.m) {
			for _, h := range allGrids(c.n, c.k) {
				checkJoined(t, g, h)
			}
		}
	}
}

// Promise 54: flipped twice, a pairing stays.
func TestP54JoinFlip(t *testing.T) {
	everyPairing(func(p ofSides) {
		flipped, ok := impl.JoinFlip(p.n, p.m, p.pairs)
		wantNumbers(t, sidesName("JoinFlip", p), flipped, ok, p.flipped().pairs...)
		back, ok := impl.JoinFlip(p.n, p.m, flipped)
		wantNumbers(t, sidesName("twice, JoinFlip", p), back, ok, p.pairs...)
	})
}

func TestP54FlipsTold(t *testing.T) {
	for _, c := range []struct {
		p    ofSides
		want []int
	}{
		{ofSides{1, 1, []int{3, 2, 1, 0}}, []int{1, 0, 3, 2}},
		{ofSides{1, 1, []int{2, 3, 0, 1}}, []int{2, 3, 0, 1}},
		{ofSides{1, 2, []int{4, 2, 1, 5, 0, 3}}, []int{5, 3, 4, 1, 2, 0}},
		{ofSides{2, 1, []int{4, 2, 1, 5, 0, 3}}, []int{2, 3, 0, 1, 5, 4}},
		{ofSides{1, 2, []int{3, 4, 5, 0, 1, 2}}, []int{3, 4, 5, 0, 1, 2}},
		{ofSides{2, 1, []int{1, 0, 3, 2, 5, 4}}, []int{5, 2, 1, 4, 3, 0}},
		{ofSides{5, 5, neighbours(20)}, turnedOnce(neighbours(20))},
		{ofSides{5, 5, across(20)}, across(20)},
	} {
		flipped, ok := impl.JoinFlip(c.p.n, c.p.m, c.p.pairs)
		wantNumbers(t, sidesName("JoinFlip", c.p), flipped, ok, c.want...)
	}
}

// Promise 55: the pairing of a grid flipped is its pairing flipped.
func TestP55JoinFlip(t *testing.T) {
	for _, g := range roundGrids() {
		p := gridSides(t, g)
		flipped, ok := impl.JoinFlip(p.n, p.m, p.pairs)
		wantNumbers(t, name("JoinFlip", g), flipped, ok, followedPairs(flip(t, g))...)
		want := gridSides(t, flip(t, g))
		wantNumbers(t, name("JoinFlip", g), flipped, ok, want.pairs...)
	}
}

// Promise 56: a pairing is turned as CrossTurn does by the number of rows, and stays if turned 4 times.
func TestP56JoinTurn(t *testing.T) {
	everyPairing(func(p ofSides) {
		pairs, n, m := p.pairs, p.n, p.m
		want := p
		for range 4 {
			turned, ok := impl.JoinTurn(n, m, pairs)
			want = want.turned()
			wantNumbers(t, pairsName("JoinTurn", pairs, n, m), turned, ok, want.pairs...)
			wantNumbers(t, pairsName("JoinTurn", pairs, n, m), turned, ok, turnPairs(t, pairs, n)...)
			pairs, n, m = turned, m, n
		}
		wantNumbers(t, sidesName("4 times, JoinTurn", p), pairs, true, p.pairs...)
	})
}

func TestP56TurnsTold(t *testing.T) {
	for _, c := range []struct {
		p    ofSides
		want []int
	}{
		{ofSides{1, 1, []int{3, 2, 1, 0}}, []int{1, 0, 3, 2}},
		{ofSides{1, 2, []int{4, 2, 1, 5, 0, 3}}, []int{4, 5, 3, 2, 0, 1}},
		{ofSides{2, 1, []int{4, 2, 1, 5, 0, 3}}, []int{2, 5, 0, 4, 3, 1}},
		{ofSides{1, 4, neighbours(10)}, turnedOnce(neighbours(10))},
		{ofSides{4, 1, neighbours(10)}, neighbours(10)},
		{ofSides{5, 5, nested(20)}, append(nested(10), 19, 18, 17, 16, 15, 14, 13, 12, 11, 10)},
	} {
		turned, ok := impl.JoinTurn(c.p.n, c.p.m, c.p.pairs)
		wantNumbers(t, sidesName("JoinTurn", c.p), turned, ok, c.want...)
	}
}

// Promise 57: joining the columns of a grid leads to the partners of its beams.
func TestP57JoinGrid(t *testing.T) {
	for _, g := range append(roundGrids(), ringedGrid, crossedRounds, wovenGrid, knottedGrid) {
		pairs, ok := impl.JoinGrid(g)
		wantNumbers(t, name("JoinGrid", g), pairs, ok, followedPairs(g)...)
		wantNumbers(t, name("JoinGrid", g), pairs, ok, ofGrid(t, "BeamPairs", impl.BeamPairs, g)...)
	}
}

func TestP57GridsTold(t *testing.T) {
	for _, c := range []struct {
		g    []string
		want []int
	}{
		{[]string{"."}, []int{2, 3, 0, 1}},
		{[]string{"r"}, []int{3, 2, 1, 0}},
		{[]string{"f"}, []int{1, 0, 3, 2}},
		{[]string{".f"}, []int{4, 2, 1, 5, 0, 3}},
		{[]string{".", "r"}, []int{4, 5, 3, 2, 0, 1}},
		{[]string{"r.f"}, []int{7, 5, 3, 2, 6, 1, 4, 0}},
		{[]string{"r", ".", "f"}, []int{7, 3, 6, 1, 5, 4, 2, 0}},
		{[]string{"rf", "fr"}, []int{7, 2, 1, 4, 3, 6, 5, 0}},
		{emptyGrid(2, 2), []int{5, 4, 7, 6, 1, 0, 3, 2}},
		{gridOfLetters(checkered(5, 5), 5), []int{19, 2, 1, 4, 3, 6, 5, 8, 7, 10, 9, 12, 11, 14, 13, 16, 15, 18, 17, 0}},
	} {
		pairs, ok := impl.JoinGrid(c.g)
		wantNumbers(t, name("JoinGrid", c.g), pairs, ok, c.want...)
	}
}

// Promise 58: joining the columns of a grid leads to the number of its rounds.
func TestP58JoinMany(t *testing.T) {
	everyDrawing(func(g []string, want drawing) {
		many, ok := impl.JoinMany(g)
		wantNumber(t, name("JoinMany", g), many, ok, want.rounds)
		wantNumber(t, name("JoinMany", g), many, ok, ofGrid(t, "RoundMany", impl.RoundMany, g))
	})
}

func TestP58ManyTold(t *testing.T) {
	for _, c := range []struct {
		g    []string
		want int
	}{
		{[]string{"."}, 0},
		{[]string{"rfrfr"}, 0},
		{[]string{"r", "f", "r", "f", "r"}, 0},
		{[]string{"rf", "fr"}, 1},
		{[]string{"fr", "rf"}, 0},
		{[]string{"r...f", "f...r"}, 1},
		{[]string{"rfrf", "frfr"}, 2},
		{[]string{"rf", "fr", "rf", "fr"}, 2},
		{crossingRound, 1},
		{meetingRounds, 2},
		{crossingRounds, 2},
		{crossedRounds, 2},
		{chainRound, 1},
		{borderRound, 1},
		{emptyGrid(5, 5), 0},
		{gridOfLetters(strings.Repeat("r", 25), 5), 0},
		{gridOfLetters(checkered(5, 5), 5), 8},
	} {
		many, ok := impl.JoinMany(c.g)
		wantNumber(t, name("JoinMany", c.g), many, ok, c.want)
	}
}

// Promise 59: the pairing of a grid without mirrors, in which each row crosses each column.
func TestP59JoinUnit(t *testing.T) {
	everySides(func(n, m int) {
		call := pairsName("JoinUnit", nil, n, m)
		unit, ok := impl.JoinUnit(n, m)
		wantNumbers(t, call, unit, ok, followedPairs(emptyGrid(n, m))...)
		empty, ok := impl.GridOf(n, m, 0)
		must(t, ok, "GridOf", empty)
		wantNumbers(t, call, unit, true, ofGrid(t, "BeamPairs", impl.BeamPairs, empty)...)
		chords, ok := impl.CrossChords(unit)
		wantNumber(t, pairsName("CrossChords", unit), chords, ok, n*m)
	})
}

func TestP59UnitsTold(t *testing.T) {
	for _, c := range []struct {
		n, m int
		want []int
	}{
		{1, 1, []int{2, 3, 0, 1}},
		{1, 2, []int{4, 3, 5, 1, 0, 2}},
		{2, 1, []int{3, 5, 4, 0, 2, 1}},
		{2, 2, []int{5, 4, 7, 6, 1, 0, 3, 2}},
		{5, 1, []int{6, 11, 10, 9, 8, 7, 0, 5, 4, 3, 2, 1}},
		{1, 5, []int{10, 9, 8, 7, 6, 11, 4, 3, 2, 1, 0, 5}},
		{5, 5, []int{14, 13, 12, 11, 10, 19, 18, 17, 16, 15, 4, 3, 2, 1, 0, 9, 8, 7, 6, 5}},
	} {
		unit, ok := impl.JoinUnit(c.n, c.m)
		wantNumbers(t, pairsName("JoinUnit", nil, c.n, c.m), unit, ok, c.want...)
	}
}

// Promise 60: no pairs cross if none did in both pairings that were joined.
func TestP60JoinPairs(t *testing.T) {
	some := 0
	everySides(func(n, m int) {
		for k := 1; m+k <= impl.SideMax; k++ {
			for _, left := range plainPairingsOf(n, m, 30) {
				for _, right := range plainPairingsOf(n, k, 30) {
					j := twoPairings{left, right}
					whole, rounds := joinTwo(t, j)
					chords, ok := impl.CrossChords(whole.pairs)
					wantNumber(t, joinName("CrossChords of JoinPairs", j), chords, ok, 0)
					wantNumber(t, joinName("pairs that cross, JoinPairs", j), chordsOf(whole.pairs), true, 0)
					some += rounds
				}
			}
		}
	})
	if some == 0 {
		t.Error("no rounds come by joining pairings without pairs that cross")
	}
}

// Promise 61: closing a pairing makes no more rounds than rows, as many from behind, and one of each row without mirrors.
func TestP61JoinClose(t *testing.T) {
	none := 0
	everyPairing(func(p ofSides) {
		rounds, ok := impl.JoinClose(p.n, p.m, p.pairs)
		wantNumber(t, sidesName("JoinClose", p), rounds, ok, p.closed())
		if rounds > p.n {
			t.Errorf("%s is %d", sidesName("JoinClose", p), rounds)
		}
		wantNumber(t, sidesName("flipped, JoinClose", p), closePairs(t, flipPairs(t, p)), true, rounds)
		if rounds == 0 {
			none++
		}
	})
	if none == 0 {
		t.Error("no pairing is closed without rounds")
	}
	everySides(func(n, m int) {
		unit, ok := impl.JoinUnit(n, m)
		if !ok {
			t.Fatalf("%s fails", pairsName("JoinUnit", nil, n, m))
		}
		wantNumber(t, pairsName("JoinClose", unit, n, m), closePairs(t, ofSides{n, m, unit}), true, n)
	})
}

// One row that is closed makes one round if both of its ends are partners, and otherwise none.
func TestP61OneRow(t *testing.T) {
	for m := 1; m <= impl.SideMax; m++ {
		for _, p := range pairingsOf(1, m) {
			want := 0
			if p.pairs[m] == 2*m+1 {
				want = 1
			}
			rounds, ok := impl.JoinClose(1, m, p.pairs)
			wantNumber(t, sidesName("JoinClose", p), rounds, ok, want)
		}
	}
}

func TestP61ClosedTold(t *testing.T) {
	for _, c := range []struct {
		p    ofSides
		want int
	}{
		{ofSides{1, 1, []int{2, 3, 0, 1}}, 1},
		{ofSides{1, 1, []int{3, 2, 1, 0}}, 0},
		{ofSides{1, 1, []int{1, 0, 3, 2}}, 0},
		{ofSides{1, 2, []int{4, 2, 1, 5, 0, 3}}, 0},
		{ofSides{1, 2, []int{3, 4, 5, 0, 1, 2}}, 1},
		{ofSides{2, 1, []int{5, 2, 1, 4, 3, 0}}, 0},
		{ofSides{2, 1, []int{3, 2, 1, 0, 5, 4}}, 1},
		{ofSides{2, 1, []int{3, 4, 5, 0, 1, 2}}, 1},
		{ofSides{2, 1, []int{3, 5, 4, 0, 2, 1}}, 2},
		{ofSides{2, 1, []int{2, 5, 0, 4, 3, 1}}, 1},
		{ofSides{4, 2, neighbours(12)}, 2},
		{ofSides{4, 2, nested(12)}, 0},
		{ofSides{5, 1, across(12)}, 3},
		{ofSides{5, 1, neighbours(12)}, 0},
		{ofSides{5, 5, across(20)}, 3},
		{ofSides{5, 5, []int{14, 13, 12, 11, 10, 15, 19, 18, 17, 16, 4, 3, 2, 1, 0, 5, 9, 8, 7, 6}}, 1},
	} {
		rounds, ok := impl.JoinClose(c.p.n, c.p.m, c.p.pairs)
		wantNumber(t, sidesName("JoinClose", c.p), rounds, ok, c.want)
	}
}

// Promise 62: closing what joins two pairings, and joining them, make as many rounds together, whichever one is first.
func TestP62JoinClose(t *testing.T) {
	apart := 0
	everyJoin(func(j twoPairings) {
		whole, rounds := joinTwo(t, j)
		other, otherRounds := joinTwo(t, j.exchanged())
		closed, otherClosed := closePairs(t, whole), closePairs(t, other)
		wantNumber(t, joinName("all rounds of", j), closed+rounds, true, otherClosed+otherRounds)
		if closed != otherClosed {
			apart++
		}
	})
	if apart == 0 {
		t.Error("closing alone makes as many rounds, whichever one is first")
	}
}

// wantNoJoin checks that two lists can't be joined.
func wantNoJoin(t *testing.T, n, m int, a []int, k int, b []int) {
	t.Helper()
	call := pairsName(" joining", a, n, m) + pairsName(" and", b, k)
	pairs, ok := impl.JoinPairs(n, m, a, k, b)
	wantNoNumbers(t, "JoinPairs,"+call, pairs, ok)
	rounds, ok := impl.JoinRounds(n, m, a, k, b)
	wantNoNumber(t, "JoinRounds,"+call, rounds, ok)
}

// wantNoSides checks that a list is no pairing of numbers of rows and columns.
func wantNoSides(t *testing.T, n, m int, pairs []int) {
	t.Helper()
	flipped, ok := impl.JoinFlip(n, m, pairs)
	wantNoNumbers(t, pairsName("JoinFlip", pairs, n, m), flipped, ok)
	turned, ok := impl.JoinTurn(n, m, pairs)
	wantNoNumbers(t, pairsName("JoinTurn", pairs, n, m), turned, ok)
	rounds, ok := impl.JoinClose(n, m, pairs)
	wantNoNumber(t, pairsName("JoinClose", pairs, n, m), rounds, ok)
	if n >= 1 && n <= impl.SideMax {
		wantNoJoin(t, n, m, pairs, 1, neighbours(2*n+2))
		wantNoJoin(t, n, 1, neighbours(2*n+2), m, pairs)
	}
	wantNoJoin(t, n, m, pairs, m, pairs)
}

func TestJoinsOfNoPairings(t *testing.T) {
	for _, list := range notPairings() {
		everySides(func(n, m int) { wantNoSides(t, n, m, list) })
	}
}

func TestJoinsOfOtherSides(t *testing.T) {
	everySides(func(n, m int) {
		for ports := 4; ports <= 20; ports += 2 {
			if ports != 2*n+2*m {
				wantNoSides(t, n, m, neighbours(ports))
				wantNoSides(t, n, m, across(ports))
			}
		}
	})
}

func TestJoinsOfNoSides(t *testing.T) {
	for _, sides := range sidesFor() {
		n, m := sides[0], sides[1]
		unit, ok := impl.JoinUnit(n, m)
		wantNoNumbers(t, pairsName("JoinUnit", nil, n, m), unit, ok)
		for ports := 4; ports <= 20; ports += 2 {
			wantNoSides(t, n, m, neighbours(ports))
		}
	}
	// 6 rows and 1 column have as many ports as 5 rows and 2 columns, but no grid has so many rows.
	wantNoSides(t, 6, 1, neighbours(14))
	wantNoSides(t, 1, 6, neighbours(14))
	wantNoSides(t, 0, 5, neighbours(10))
	wantNoSides(t, 5, 0, neighbours(10))
	wantNoSides(t, 7, -2, neighbours(10))
	wantNoSides(t, -2, 7, neighbours(10))
}

// A pairing can be of any numbers of rows and columns that have its number of ports.
func TestJoinsOfAllSides(t *testing.T) {
	everySides(func(n, m int) {
		p := ofSides{n, m, neighbours(2*n + 2*m)}
		flipPairs(t, p)
		closePairs(t, p)
		turned, ok := impl.JoinTurn(n, m, p.pairs)
		wantNumbers(t, sidesName("JoinTurn", p), turned, ok, p.turned().pairs...)
	})
}

// Columns that are together SideMax can be joined, and one more can't, for any number of rows.
func TestJoinsOfColumns(t *testing.T) {
	everySides(func(n, m int) {
		for k := 1; k <= impl.SideMax; k++ {
			a, b := across(2*n+2*m), neighbours(2*n+2*k)
			if m+k > impl.SideMax {
				wantNoJoin(t, n, m, a, k, b)
				continue
			}
			j := twoPairings{ofSides{n, m, a}, ofSides{n, k, b}}
			pairs, rounds := j.sewn()
			got, gotRounds := joinTwo(t, j)
			wantNumbers(t, joinName("JoinPairs", j), got.pairs, true, pairs...)
			wantNumber(t, joinName("JoinRounds", j), gotRounds, true, rounds)
		}
	})
}

// Pairings of other numbers of rows can't be joined, even if they have the number of ports for other columns.
func TestJoinsOfOtherRows(t *testing.T) {
	wantNoJoin(t, 1, 1, neighbours(4), 1, neighbours(6))
	wantNoJoin(t, 2, 1, neighbours(4), 1, neighbours(6))
	wantNoJoin(t, 2, 1, neighbours(6), 1, neighbours(4))
	wantNoJoin(t, 2, 2, neighbours(8), 1, neighbours(8))
	wantNoJoin(t, 1, 1, neighbours(6), 2, neighbours(4))
	wantNoJoin(t, 5, 1, neighbours(12), 1, neighbours(14))
}

func TestJoinsOfNoGrids(t *testing.T) {
	for _, g := range notGrids() {
		pairs, ok := impl.JoinGrid(g)
		wantNoNumbers(t, name("JoinGrid", g), pairs, ok)
		many, ok := impl.JoinMany(g)
		wantNoNumber(t, name("JoinMany", g), many, ok)
	}
}

func TestJoinsShareNoMemory(t *testing.T) {
	for _, p := range []ofSides{{1, 1, []int{1, 0, 3, 2}}, {2, 1, []int{1, 0, 4, 5, 2, 3}}, {5, 2, across(14)}, {2, 3, nested(10)}} {
		all := append(slices.Clone(p.pairs), 7, 8)
		told := all[:len(p.pairs)]
		right := append(neighbours(2*p.n+2), 9)
		wantOwnMemory(t, sidesName("JoinFlip", p), -7, func() ([]int, bool) { return impl.JoinFlip(p.n, p.m, told) })
		wantOwnMemory(t, sidesName("JoinTurn", p), -7, func() ([]int, bool) { return impl.JoinTurn(p.n, p.m, told) })
		wantOwnMemory(t, sidesName("JoinPairs", p), -7, func() ([]int, bool) { return impl.JoinPairs(p.n, p.m, told, 1, right[:len(right)-1]) })
		wantOwnMemory(t, sidesName("JoinUnit", p), -7, func() ([]int, bool) { return impl.JoinUnit(p.n, p.m) })
		impl.JoinRounds(p.n, p.m, told, 1, right[:len(right)-1])
		impl.JoinClose(p.n, p.m, told)
		if !slices.Equal(all, append(slices.Clone(p.pairs), 7, 8)) || !slices.Equal(right, append(neighbours(2*p.n+2), 9)) {
			t.Errorf("the pairings were changed: %v and %v", all, right)
		}
	}
	g, rest := wholeMemory([]string{".f", "fr"})
	wantOwnMemory(t, "JoinGrid", -7, func() ([]int, bool) { return impl.JoinGrid(g) })
	impl.JoinMany(g)
	if !slices.Equal(rest, []string{".f", "fr", "behind", "more"}) {
		t.Errorf("the grid was changed: %q", rest)
	}
}

// One pairing can be both that are joined, and the same list for both.
func TestJoinsOfOneListTwice(t *testing.T) {
	for n := 1; n <= impl.SideMax; n++ {
		for m := 1; 2*m <= impl.SideMax; m++ {
			for at, p := range fewPairingsOf(n, m, 20) {
				kept := slices.Clone(p.pairs)
				want, rounds := twoPairings{p, p}.sewn()
				got, gotRounds := joinTwo(t, twoPairings{p, p})
				wantNumbers(t, strconv.Itoa(at)+": "+sidesName("twice, JoinPairs", p), got.pairs, true, want...)
				wantNumber(t, strconv.Itoa(at)+": "+sidesName("twice, JoinRounds", p), gotRounds, true, rounds)
				wantNumbers(t, sidesName("the list", p), p.pairs, true, kept...)
			}
		}
	}
}
