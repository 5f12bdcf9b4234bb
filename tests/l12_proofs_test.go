package tests

import (
	"slices"
	"strconv"
	"strings"
	"sync"
	"testing"

	"loop.example/mirrorgrids/impl"
)

// proofName tells a call with a text in what a test says.
func proofName(call string, g []string, text string, numbers ...int) string {
	return name(call, g, numbers...) + " " + strconv.Quote(text)
}

func wantNoText(t *testing.T, what, got string, ok bool) {
	t.Helper()
	if ok || got != "" {
		t.Errorf("%s returned %q, %v instead of failing", what, got, ok)
	}
}

// wantBeamIs checks that a text proves the beam of a port.
func wantBeamIs(t *testing.T, g []string, port int, text string, end int) {
	t.Helper()
	got, ok := impl.ProofBeamIs(g, port, text)
	wantNumber(t, proofName("ProofBeamIs", g, text, port), got, ok, end)
}

func wantNoBeamIs(t *testing.T, g []string, port int, text string) {
	t.Helper()
	got, ok := impl.ProofBeamIs(g, port, text)
	wantNoNumber(t, proofName("ProofBeamIs", g, text, port), got, ok)
}

// wantRoundIs checks that a text proves a round of so many cells.
func wantRoundIs(t *testing.T, g []string, text string, cells int) {
	t.Helper()
	got, ok := impl.ProofRoundIs(g, text)
	wantNumber(t, proofName("ProofRoundIs", g, text), got, ok, cells)
}

func wantNoRoundIs(t *testing.T, g []string, text string) {
	t.Helper()
	got, ok := impl.ProofRoundIs(g, text)
	wantNoNumber(t, proofName("ProofRoundIs", g, text), got, ok)
}

func wantNoneIs(t *testing.T, g []string, text string, want bool) {
	t.Helper()
	if got := impl.ProofNoneIs(g, text); got != want {
		t.Errorf("%s is %v", proofName("ProofNoneIs", g, text), got)
	}
}

// waysIn returns how many letters of ways stand behind the last space of a proof.
func waysIn(proof string) int {
	letters := proof[strings.LastIndex(proof, " ")+1:]
	return strings.Count(letters, "u") + strings.Count(letters, "r") + strings.Count(letters, "d") + strings.Count(letters, "l")
}

// The grids of the tests have what the promises tell apart.
func TestProofGrids(t *testing.T) {
	seen := map[string]int{}
	everySides(func(n, m int) { seen[strconv.Itoa(n)+" by "+strconv.Itoa(m)] = 0 })
	for rounds := range 4 {
		seen[strconv.Itoa(rounds)+" rounds"] = 0
	}
	for _, kind := range []string{"a least cell of two digits", "a length of two digits", "a cell twice in a round", "the first round is longer", "the first round is shorter", "one text for two ports"} {
		seen[kind] = 0
	}
	note := func(kind string, holds bool) {
		if holds {
			seen[kind]++
		}
	}
	for _, g := range proofGrids() {
		seen[strconv.Itoa(len(g))+" by "+strconv.Itoa(len(g[0]))]++
		want := draw(g)
		seen[strconv.Itoa(want.rounds)+" rounds"]++
		note("a length of two digits", want.rounds == 0 && slices.Max(beamLengths(g)) > 9)
		note("one text for two ports", beamText(g, 0) == beamText(g, portsOf(g)-1) || beamText(g, 0) == beamText(g, 1))
		if want.rounds == 0 {
			continue
		}
		first := allRoundTexts(g)[0]
		note("a least cell of two digits", first.cell > 9)
		note("a cell twice in a round", len(slices.Compact(slices.Sorted(slices.Values(ring(g, first.cell, first.d))))) < first.manyCells)
		note("the first round is longer", first.manyCells > want.lengths[0])
		note("the first round is shorter", first.manyCells < want.lengths[len(want.lengths)-1])
	}
	for kind, many := range seen {
		if many == 0 {
			t.Errorf("no grid is of the kind: %s", kind)
		}
	}
}

// Promise 97: the proof of a beam has a letter for each cell of its way, and proves where it ends.
func TestP97ProofBeam(t *testing.T) {
	everyBeam(func(g []string, port int, want followed) {
		text, ok := impl.ProofBeam(g, port)
		wantText(t, name("ProofBeam", g, port), text, ok, beamText(g, port))
		wantBeamIs(t, g, port, text, want.end)
		wantBeamIs(t, g, port, text, ofBeam(t, "BeamEnd", impl.BeamEnd, g, port))
		way := ofBeam(t, "BeamWay", impl.BeamWay, g, port)
		wantNumber(t, "the letters of "+name("ProofBeam", g, port), waysIn(text), true, len(way))
		wantNumber(t, "the bytes of "+name("ProofBeam", g, port), len(text), true, len("beam ")+len(way))
	})
}

// toldBeam is the proof of the beam of a port, and where it ends.
type toldBeam struct {
	g    []string
	port int
	text string
	end  int
}

// toldBeams returns proofs of beams that were worked out by hand.
func toldBeams() []toldBeam {
	dot, rising, falling, row, column, bent := []string{"."}, []string{"r"}, []string{"f"}, []string{".rf"}, []string{".", "r", "f"}, []string{"rf", "f."}
	return []toldBeam{
		{dot, 0, "beam d", 2}, {dot, 1, "beam l", 3}, {dot, 2, "beam u", 0}, {dot, 3, "beam r", 1},
		{rising, 0, "beam d", 3}, {rising, 1, "beam l", 2}, {rising, 2, "beam u", 1}, {rising, 3, "beam r", 0},
		{falling, 0, "beam d", 1}, {falling, 1, "beam l", 0}, {falling, 2, "beam u", 3}, {falling, 3, "beam r", 2},
		{row, 0, "beam d", 6}, {row, 1, "beam dl", 7}, {row, 2, "beam d", 3}, {row, 3, "beam l", 2},
		{row, 4, "beam ul", 5}, {row, 5, "beam ur", 4}, {row, 6, "beam u", 0}, {row, 7, "beam rr", 1},
		{column, 0, "beam dd", 6}, {column, 1, "beam l", 7}, {column, 2, "beam ld", 3}, {column, 4, "beam u", 5}, {column, 6, "beam ru", 0},
		{[]string{"....."}, 5, "beam lllll", 11}, {[]string{"....."}, 11, "beam rrrrr", 5},
		{[]string{".", ".", ".", ".", "."}, 0, "beam ddddd", 6}, {[]string{".", ".", ".", ".", "."}, 6, "beam uuuuu", 0},
		{bent, 0, "beam d", 7}, {bent, 1, "beam d", 2}, {bent, 3, "beam llurd", 4}, {bent, 4, "beam uuldr", 3}, {bent, 5, "beam u", 6},
		{crossingGrid, 7, "beam rrdlu", 0}, {crossingGrid, 0, "beam ddrul", 7}, {touchingGrid, 7, "beam rdrul", 0}, {touchingGrid, 0, "beam drdlu", 7},
		{[]string{"rf", "fr"}, 0, "beam d", 7}, {[]string{"rf", "fr"}, 2, "beam l", 1},
		{gridOfLetters(strings.Repeat("r", 25), 5), 4, "beam dldldldld", 15}, {gridOfLetters(strings.Repeat("r", 25), 5), 15, "beam rurururur", 4},
	}
}

func TestP97BeamsTold(t *testing.T) {
	for _, c := range toldBeams() {
		text, ok := impl.ProofBeam(c.g, c.port)
		wantText(t, name("ProofBeam", c.g, c.port), text, ok, c.text)
		wantBeamIs(t, c.g, c.port, c.text, c.end)
	}
}

// Promise 98: a text that proves a beam tells where it ends, and no text like a proof does.
func TestP98ProofBeamIs(t *testing.T) {
	for _, g := range fewProofGrids(41) {
		for port := range portsOf(g) {
			proof, end := beamText(g, port), ofBeam(t, "BeamEnd", impl.BeamEnd, g, port)
			for _, text := range spoiltProofs(proof) {
				if text == proof {
					wantBeamIs(t, g, port, text, end)
				} else {
					wantNoBeamIs(t, g, port, text)
				}
			}
		}
	}
}

// At another port a proof of a beam proves nothing, but for beams that go the same ways.
func TestP98OtherPorts(t *testing.T) {
	same, others := 0, 0
	for _, g := range fewProofGrids(7) {
		texts := []string{}
		for port := range portsOf(g) {
			texts = append(texts, beamText(g, port))
		}
		for port, proof := range texts {
			for _, text := range texts {
				if text == proof {
					same++
					wantBeamIs(t, g, port, text, follow(g, port).end)
				} else {
					others++
					wantNoBeamIs(t, g, port, text)
				}
			}
		}
	}
	if same == 0 || others == 0 {
		t.Errorf("%d texts of ports prove, %d do not", same, others)
	}
}

func TestP98TextsTold(t *testing.T) {
	for _, c := range toldBeams() {
		ways := strings.TrimPrefix(c.text, "beam ")
		for _, text := range []string{
			"", " ", "beam", "beam ", "beam  ", ways, " " + ways, c.text + " ", " " + c.text, "beam  " + ways, "beam" + ways,
			c.text + "u", c.text + "r", c.text + "d", c.text + "l", c.text + ways, c.text + "\n", c.text + "\x00", c.text[:len(c.text)-1],
			c.text + ".", "beam x" + ways[1:], "beam " + strings.ToUpper(ways), "beams " + ways, "Beam " + ways, "round " + ways, "lengths " + ways, "round 0 " + ways,
			"beam 0 " + ways, "beam " + strconv.Itoa(c.port) + " " + ways, c.text + " " + strconv.Itoa(c.end), "beam " + strings.Join(strings.Split(ways, ""), " ") + " ",
		} {
			wantNoBeamIs(t, c.g, c.port, text)
		}
	}
}

// All texts of at most three ways, in all grids of at most 4 cells.
func TestP98ShortTexts(t *testing.T) {
	for _, g := range slices.Concat(allGrids(1, 1), allGrids(1, 3), allGrids(3, 1), allGrids(2, 2)) {
		for port := range portsOf(g) {
			proof, end := beamText(g, port), follow(g, port).end
			for _, ways := range allWays(3) {
				if text := "beam " + ways; text == proof {
					wantBeamIs(t, g, port, text, end)
				} else {
					wantNoBeamIs(t, g, port, text)
				}
			}
		}
	}
}

// allWays returns all texts of at most so many letters of ways.
func allWays(most int) []string {
	texts := []string{""}
	last := texts
	for range most {
		longer := []string{}
		for _, text := range last {
			longer = append(longer, text+"u", text+"r", text+"d", text+"l")
		}
		texts, last = append(texts, longer...), longer
	}
	return texts
}

// Promise 99: the proof of a round is one of the round with the least cell, from there on, entered as the first of u, r, d and l tells.
func TestP99ProofRound(t *testing.T) {
	for _, g := range proofGrids() {
		text, ok := impl.ProofRound(g)
		rounds := allRoundTexts(g)
		if len(rounds) == 0 {
			wantNoText(t, name("ProofRound", g), text, ok)
			continue
		}
		wantText(t, name("ProofRound", g), text, ok, rounds[0].text)
		least := ofGrid(t, "RoundLeast", impl.RoundLeast, g)
		if !strings.HasPrefix(text, "round "+strconv.Itoa(least)+" ") {
			t.Errorf("%s is %q, but RoundLeast is %d", name("ProofRound", g), text, least)
		}
		cells, ok := impl.ProofRoundIs(g, text)
		wantNumber(t, proofName("ProofRoundIs", g, text), cells, ok, rounds[0].manyCells)
		if lengths := ofGrid(t, "RoundLengths", impl.RoundLengths, g); !slices.Contains(lengths, cells) || cells != waysIn(text) {
			t.Errorf("%s is %d, and RoundLengths is %v", proofName("ProofRoundIs", g, text), cells, lengths)
		}
	}
}

// The least cell of a round has none above it and none to its left, so that it is entered upwards and leftwards: the way upwards is taken.
func TestP99LeastCellTwoWays(t *testing.T) {
	many := 0
	for _, g := range proofGrids() {
		rounds := allRoundTexts(g)
		if len(rounds) == 0 {
			continue
		}
		many++
		ways := []int{}
		for _, round := range rounds {
			if round.cell == rounds[0].cell {
				ways = append(ways, round.d)
			}
		}
		wantNumbers(t, "the ways into the least cell of a round of "+strings.Join(g, "/"), ways, true, 0, 3)
		text := ofGrid(t, "ProofRound", impl.ProofRound, g)
		if letters := strings.Split(text, " ")[2]; !strings.HasPrefix(letters, "u") {
			t.Errorf("%s is %q", name("ProofRound", g), text)
		}
		wantRoundIs(t, g, rounds[1].text, rounds[0].manyCells)
	}
	if many == 0 {
		t.Error("no grid has a round")
	}
}

func TestP99RoundsTold(t *testing.T) {
	for _, c := range []struct {
		g     []string
		text  string
		cells int
	}{
		{[]string{"rf", "fr"}, "round 0 urdl", 4},
		{[]string{".rf", ".fr"}, "round 1 urdl", 4},
		{[]string{"..", "rf", "fr"}, "round 2 urdl", 4},
		{[]string{"r.f", "f.r"}, "round 0 urrdll", 6},
		{[]string{"rf", "..", "fr"}, "round 0 urddlu", 6},
		{crossingRound, "round 0 urddrull", 8},
		{touchingRound, "round 0 urdrdlul", 8},
		{meetingRounds, "round 0 urdl", 4},
		{crossingRounds, "round 0 urrddllu", 8},
		{chainRound, "round 0 urddrrddrulluull", 16},
		{borderRound, "round 0 urrrrddddlllluuu", 16},
		{lateRound, "round 18 urdl", 4},
		{lateRounds, "round 10 urdl", 4},
		{longFirst, "round 0 urrddllu", 8},
		{shortFirst, "round 0 urdl", 4},
		{gridOfLetters(checkered(5, 5), 5), "round 0 urdl", 4},
	} {
		text, ok := impl.ProofRound(c.g)
		wantText(t, name("ProofRound", c.g), text, ok, c.text)
		wantRoundIs(t, c.g, c.text, c.cells)
	}
	for _, g := range [][]string{{"."}, {"r"}, {"f"}, {"....."}, {"rfrfr"}, {"r", "f", "r", "f", "r"}, {"..", ".."}, {"fr", "rf"}, {"rf", "f."}, crossingGrid, touchingGrid, emptyGrid(5, 5)} {
		text, ok := impl.ProofRound(g)
		wantNoText(t, name("ProofRound", g), text, ok)
	}
}

// Promise 100: a text that proves a round has at least 4 cells, and there is one: each round is proved from each of its cells on, there and back.
func TestP100ProofRoundIs(t *testing.T) {
	for _, g := range proofGrids() {
		many := ofGrid(t, "RoundMany", impl.RoundMany, g)
		lengths := ofGrid(t, "RoundLengths", impl.RoundLengths, g)
		rounds := allRoundTexts(g)
		wantNumber(t, "the proofs of rounds of "+strings.Join(g, "/"), len(rounds), true, 2*sum(lengths))
		for _, round := range rounds {
			cells, ok := impl.ProofRoundIs(g, round.text)
			wantNumber(t, proofName("ProofRoundIs", g, round.text), cells, ok, round.manyCells)
			if cells < 4 || many < 1 || !slices.Contains(lengths, cells) {
				t.Errorf("%s is %d, and RoundLengths is %v", proofName("ProofRoundIs", g, round.text), cells, lengths)
			}
		}
	}
}

// Texts like proofs prove a round only if they are one of all proofs.
func TestP100SpoiltRounds(t *testing.T) {
	seen := map[bool]int{}
	for _, g := range fewProofGrids(29) {
		proofs := roundsByText(g)
		for at, round := range allRoundTexts(g) {
			if at%5 > 1 {
				continue
			}
			for _, text := range spoiltProofs(round.text) {
				cells, ok := proofs[text]
				seen[ok]++
				if ok {
					wantRoundIs(t, g, text, cells)
				} else {
					wantNoRoundIs(t, g, text)
				}
			}
		}
	}
	if seen[true] == 0 || seen[false] == 0 {
		t.Errorf("%v texts prove rounds", seen)
	}
}

// What is told of one round proves none if it goes on, stops ahead of the end, or begins elsewhere.
func TestP100OtherRounds(t *testing.T) {
	for _, g := range fewProofGrids(11) {
		proofs := roundsByText(g)
		for _, round := range allRoundTexts(g) {
			ways := strings.Split(round.text, " ")[2]
			wantNoRoundIs(t, g, round.text+ways)
			wantNoRoundIs(t, g, round.text+ways+ways)
			wantNoRoundIs(t, g, round.text+ways[:1])
			for at := range ways {
				wantNoRoundIs(t, g, round.text[:len(round.text)-len(ways)+at])
			}
			for _, cell := range append(someNumbers(), cellsOf(g), cellsOf(g)-1, 10*round.cell) {
				text := "round " + strconv.Itoa(cell) + " " + ways
				if cells, ok := proofs[text]; ok {
					wantRoundIs(t, g, text, cells)
				} else {
					wantNoRoundIs(t, g, text)
				}
			}
		}
	}
}

// The ways of a beam from one of its cells on prove no round.
func TestP100WaysOfBeams(t *testing.T) {
	for _, g := range fewProofGrids(11) {
		for port := range portsOf(g) {
			beam := follow(g, port)
			for at, cell := range beam.cells {
				ways := sideLetters(beam.sides[at:])
				for _, text := range []string{ways, ways + ways, ways[:1], ways[:(len(ways)+1)/2]} {
					wantNoRoundIs(t, g, "round "+strconv.Itoa(cell)+" "+text)
				}
			}
		}
	}
}

// All texts of at most four ways, from all cells of all grids of 2 rows and 2 columns, and of grids of one row and one column.
func TestP100ShortTexts(t *testing.T) {
	many := 0
	for _, g := range slices.Concat(allGrids(2, 2), mixedGrids(1, 5, 1), mixedGrids(5, 1, 1)) {
		proofs := roundsByText(g)
		for cell := range cellsOf(g) {
			for _, ways := range allWays(4) {
				text := "round " + strconv.Itoa(cell) + " " + ways
				if cells, ok := proofs[text]; ok {
					many++
					wantRoundIs(t, g, text, cells)
				} else {
					wantNoRoundIs(t, g, text)
				}
			}
		}
	}
	wantNumber(t, "the proofs of the round of 2 rows and 2 columns", many, true, 8)
}

func TestP100ProofsTold(t *testing.T) {
	for _, c := range []struct {
		g     []string
		cells int
		texts []string
	}{
		{[]string{"rf", "fr"}, 4, []string{"round 0 urdl", "round 0 ldru", "round 1 rdlu", "round 1 uldr", "round 2 lurd", "round 2 drul", "round 3 dlur", "round 3 ruld"}},
		{[]string{"r.f", "f.r"}, 6, []string{"round 0 urrdll", "round 0 ldrrul", "round 1 rrdllu", "round 1 lldrru", "round 5 dllurr", "round 4 llurrd"}},
		{crossingRound, 8, []string{"round 0 urddrull", "round 4 uuldrrdl", "round 4 rrdluuld", "round 4 ddrullur", "round 4 llurddru", "round 8 rullurdd"}},
		{touchingRound, 8, []string{"round 0 urdrdlul", "round 4 ulurdrdl", "round 4 drdlulur"}},
		{meetingRounds, 4, []string{"round 0 urdl", "round 4 urdl", "round 4 ldru", "round 4 ruld", "round 4 dlur", "round 8 dlur", "round 7 lurd"}},
		{longFirst, 4, []string{"round 18 urdl", "round 19 rdlu", "round 24 dlur", "round 23 drul"}},
		{longFirst, 8, []string{"round 0 urrddllu", "round 12 dlluurrd", "round 5 uurrddll"}},
		{borderRound, 16, []string{"round 20 luuuurrrrddddlll", "round 0 lddddrrrruuuulll", "round 10 uuurrrrddddllllu"}},
	} {
		for _, text := range c.texts {
			wantRoundIs(t, c.g, text, c.cells)
		}
	}
}

func TestP100NoProofsTold(t *testing.T) {
	for _, c := range []struct {
		g     []string
		texts []string
	}{
		{[]string{"rf", "fr"}, []string{
			"", " ", "round", "round ", "round 0", "round 0 ", "round  ", "round 0 u", "round 0 urd", "urdl", "0 urdl", " 0 urdl", "round urdl",
			"round 0 urdl ", " round 0 urdl", "round  0 urdl", "round 0  urdl", "round 0urdl", "round0 urdl", "round 0 urdl\n", "round 0 urdl\x00", "round\t0\turdl",
			"round 0 urdlu", "round 0 urdlurdl", "round 0 urdlurdlurdl", "round 0 urdx", "round 0 xrdl", "round 0 .rdl", "round 0 URDL", "round 0 Urdl", "round 0 urdd", "round 0 rdlu", "round 0 dlur", "round 0 lurd", "round 0 u r d l",
			"round 1 urdl", "round 2 urdl", "round 3 urdl", "round 4 urdl", "round 5 urdl", "round 25 urdl", "round -1 urdl", "round -0 urdl", "round +0 urdl",
			"round 00 urdl", "round 01 rdlu", "round 0x0 urdl", "round 0.0 urdl", "round 0_0 urdl", "round 1e0 rdlu", "round a urdl", "round  urdl",
			"round 18446744073709551616 urdl", "round 18446744073709551617 rdlu", "round 4294967296 urdl", "round 9223372036854775808 urdl", "round -18446744073709551616 urdl",
			"Round 0 urdl", "rounds 0 urdl", "beam 0 urdl", "beam urdl", "lengths 0 urdl", "lengths 1 1 1 1",
		}},
		{lateRound, []string{"round 018 urdl", "round 0018 urdl", "round 1 8 urdl", "round 8 urdl", "round 1 urdl", "round 81 urdl", "round 180 urdl", "round 18 rdlu", "round 18 uldr", "round 19 urdl", "round 13 urdl", "round 0 urdl"}},
		{crossingRound, []string{"round 4 uuld", "round 4 rrdl", "round 4 uuldrrdluuldrrdl", "round 4 uuldlldr", "round 0 urddrul", "round 2 urdl", "round 6 urdl"}},
		{touchingRound, []string{"round 4 ulur", "round 4 drdl", "round 4 urdl", "round 0 urdl"}},
		{meetingRounds, []string{"round 0 urdrdlul", "round 4 urdlldru", "round 4 urdlurdl", "round 0 urddrull"}},
		{[]string{"."}, []string{"round 0 u", "round 0 ud", "round 0 urdl", "round 0 "}},
		{[]string{"rfrfr"}, []string{"round 0 urdl", "round 1 rl", "round 0 r"}},
		{[]string{"rf", "f."}, []string{"round 0 urdl", "round 0 ldru", "round 3 dlur", "round 3 llurd"}},
		{[]string{"..", ".."}, []string{"round 0 rl", "round 0 rdlu", "round 0 uudd"}},
	} {
		for _, text := range c.texts {
			wantNoRoundIs(t, c.g, text)
		}
	}
}

// Promise 101: the proof that there are no rounds holds, and there are none.
func TestP101ProofNone(t *testing.T) {
	for _, g := range proofGrids() {
		text, ok := impl.ProofNone(g)
		if draw(g).rounds > 0 {
			wantNoText(t, name("ProofNone", g), text, ok)
			continue
		}
		lengths := beamLengths(g)
		wantText(t, name("ProofNone", g), text, ok, lengthsText(lengths))
		wantNoneIs(t, g, text, true)
		wantNumber(t, name("RoundMany", g), ofGrid(t, "RoundMany", impl.RoundMany, g), true, 0)
		wantNumber(t, "the sum of "+name("ProofNone", g), sum(lengths), true, 2*cellsOf(g))
	}
}

// toldNone is a grid without rounds and the proof that there are none.
type toldNone struct {
	g    []string
	text string
}

// toldNones returns proofs that there are no rounds that were worked out by hand.
func toldNones() []toldNone {
	return []toldNone{
		{[]string{"."}, "lengths 1 1"},
		{[]string{"r"}, "lengths 1 1"},
		{[]string{"f"}, "lengths 1 1"},
		{[]string{".."}, "lengths 1 1 2"},
		{[]string{".", "."}, "lengths 2 1 1"},
		{[]string{".rf"}, "lengths 1 2 1 2"},
		{[]string{".", "r", "f"}, "lengths 2 1 2 1"},
		{[]string{"....."}, "lengths 1 1 1 1 1 5"},
		{[]string{".", ".", ".", ".", "."}, "lengths 5 1 1 1 1 1"},
		{[]string{"..", ".."}, "lengths 2 2 2 2"},
		{[]string{"rf", "f."}, "lengths 1 1 5 1"},
		{crossingGrid, "lengths 5 1 1 1"},
		{touchingGrid, "lengths 5 1 1 1"},
		{emptyGrid(3, 5), "lengths 3 3 3 3 3 5 5 5"},
		{emptyGrid(5, 5), "lengths 5 5 5 5 5 5 5 5 5 5"},
		{gridOfLetters(strings.Repeat("r", 25), 5), "lengths 1 3 5 7 9 9 7 5 3 1"},
	}
}

func TestP101NoneTold(t *testing.T) {
	for _, c := range toldNones() {
		text, ok := impl.ProofNone(c.g)
		wantText(t, name("ProofNone", c.g), text, ok, c.text)
		wantNoneIs(t, c.g, c.text, true)
	}
	for _, g := range [][]string{{"rf", "fr"}, {"r.f", "f.r"}, crossingRound, touchingRound, meetingRounds, crossingRounds, chainRound, borderRound, lateRound, lateRounds, longFirst, shortFirst, gridOfLetters(checkered(5, 5), 5)} {
		text, ok := impl.ProofNone(g)
		wantNoText(t, name("ProofNone", g), text, ok)
		wantNoneIs(t, g, text, false)
		wantNoneIs(t, g, lengthsText(beamLengths(g)), false)
	}
}

// Promise 102: where a text proves that there are no rounds, there are none, and no round is proved; and no other text does.
func TestP102ProofNoneIs(t *testing.T) {
	for _, g := range fewProofGrids(13) {
		proof := lengthsText(beamLengths(g))
		none := draw(g).rounds == 0
		for _, text := range spoiltProofs(proof) {
			wantNoneIs(t, g, text, none && text == proof)
		}
		if impl.ProofNoneIs(g, proof) {
			wantNumber(t, name("RoundMany", g), ofGrid(t, "RoundMany", impl.RoundMany, g), true, 0)
			text, ok := impl.ProofRound(g)
			wantNoText(t, name("ProofRound", g), text, ok)
		}
	}
}

// Lengths in another order and other lengths prove nothing, whether they add up to twice the number of cells or not.
func TestP102OtherLengths(t *testing.T) {
	seen := map[bool]int{}
	for _, g := range fewProofGrids(7) {
		lengths := beamLengths(g)
		none := draw(g).rounds == 0
		missing := 2*cellsOf(g) - sum(lengths)
		others := [][]int{slices.Sorted(slices.Values(lengths)), lengths[1:], lengths[:len(lengths)-1], append(slices.Clone(lengths), 0), append(slices.Clone(lengths), missing), append([]int{missing}, lengths...)}
		for at := range lengths {
			more, less, moved, swapped, filled := slices.Clone(lengths), slices.Clone(lengths), slices.Clone(lengths), slices.Clone(lengths), slices.Clone(lengths)
			next := (at + 1) % len(lengths)
			more[at]++
			less[at]--
			moved[at]++
			moved[next]--
			swapped[at], swapped[next] = swapped[next], swapped[at]
			filled[at] += missing
			others = append(others, more, less, moved, swapped, filled)
		}
		for _, other := range others {
			want := none && slices.Equal(other, lengths)
			seen[want]++
			wantNoneIs(t, g, lengthsText(other), want)
		}
	}
	if seen[true] == 0 || seen[false] == 0 {
		t.Errorf("%v lengths prove that there are no rounds", seen)
	}
}

// The proof of one grid proves it for another one exactly if the lengths are the same.
func TestP102OtherGrids(t *testing.T) {
	grids := slices.Concat(allGrids(2, 2), allGrids(1, 3), [][]string{{"."}, {"r"}, crossingRound, meetingRounds, emptyGrid(5, 5)})
	for _, g := range grids {
		proof := lengthsText(beamLengths(g))
		for _, h := range grids {
			wantNoneIs(t, h, proof, draw(h).rounds == 0 && lengthsText(beamLengths(h)) == proof)
		}
	}
}

func TestP102TextsTold(t *testing.T) {
	for _, c := range toldNones() {
		numbers := strings.TrimPrefix(c.text, "lengths")
		for _, text := range []string{
			"", " ", "lengths", "lengths ", "lengths  ", numbers, numbers[1:], c.text + " ", " " + c.text, "lengths " + numbers, "lengths" + numbers[1:], c.text + "\n", c.text + "\x00",
			c.text + " 0", c.text + " 1", c.text + numbers, c.text + "0", c.text[:len(c.text)-1], c.text[:len(c.text)-2], c.text + "u",
			"lengths" + strings.ReplaceAll(numbers, " ", " 0"), "lengths" + strings.ReplaceAll(numbers, " ", " +"), "lengths" + strings.ReplaceAll(numbers, " ", "  "), "lengths" + strings.ReplaceAll(numbers, " ", ","),
			"length" + numbers, "Lengths" + numbers, "none" + numbers, "beam" + numbers, "round" + numbers, "lengthss" + numbers, "lengths 0" + numbers, "lengths:" + numbers,
		} {
			wantNoneIs(t, c.g, text, false)
		}
	}
	for _, c := range []toldNone{
		{[]string{".."}, "lengths 2 1 1"},
		{[]string{".."}, "lengths 1 2 1"},
		{[]string{".."}, "lengths 1 1 1"},
		{[]string{".."}, "lengths 1 1 1 1 2 2"},
		{[]string{".."}, "lengths 4"},
		{[]string{"rf", "f."}, "lengths 1 1 1 5"},
		{[]string{"rf", "f."}, "lengths 5 1 1 1"},
		{[]string{"rf", "f."}, "lengths 1 1 5 1 1 1 5 1"},
		{[]string{"rf", "fr"}, "lengths 1 1 1 1"},
		{[]string{"rf", "fr"}, "lengths 1 1 1 5"},
		{[]string{"rf", "fr"}, "lengths 2 2 2 2"},
		{[]string{"rf", "fr"}, "lengths 1 1 1 1 4"},
	} {
		wantNoneIs(t, c.g, c.text, false)
	}
}

// Promise 103: of each grid there is a proof of a round, or one that there is none.
func TestP103RoundOrNone(t *testing.T) {
	seen := map[bool]int{}
	for _, g := range proofGrids() {
		many := ofGrid(t, "RoundMany", impl.RoundMany, g)
		_, round := impl.ProofRound(g)
		_, none := impl.ProofNone(g)
		if round == none || round != (many > 0) {
			t.Errorf("ProofRound of %q succeeds: %v, ProofNone: %v, and RoundMany is %d", g, round, none, many)
		}
		seen[round]++
	}
	if seen[true] == 0 || seen[false] == 0 {
		t.Errorf("%v grids have rounds", seen)
	}
}

// Promise 104: the proof of a beam and that of its partner have as many letters.
func TestP104Partners(t *testing.T) {
	everyBeam(func(g []string, port int, want followed) {
		there := ofBeam(t, "ProofBeam", impl.ProofBeam, g, port)
		back := ofBeam(t, "ProofBeam", impl.ProofBeam, g, ofBeam(t, "BeamEnd", impl.BeamEnd, g, port))
		wantNumber(t, "the letters of "+proofName("the partner's proof", g, back, port), waysIn(back), true, waysIn(there))
		wantNumber(t, "the letters of "+name("ProofBeam", g, port), waysIn(there), true, want.length())
	})
}

// wantNoProofs checks that everything fails for a list that is no grid.
func wantNoProofs(t *testing.T, g []string) {
	t.Helper()
	round, ok := impl.ProofRound(g)
	wantNoText(t, name("ProofRound", g), round, ok)
	none, ok := impl.ProofNone(g)
	wantNoText(t, name("ProofNone", g), none, ok)
	for _, text := range []string{"", "round 0 urdl", "round 0 ", "round 0", "round 0 u"} {
		wantNoRoundIs(t, g, text)
	}
	for _, text := range []string{"", "lengths", "lengths ", "lengths 0", "lengths 1 1", "lengths 1 1 1 1"} {
		wantNoneIs(t, g, text, false)
	}
	for port := -1; port <= 4; port++ {
		beam, ok := impl.ProofBeam(g, port)
		wantNoText(t, name("ProofBeam", g, port), beam, ok)
		for _, text := range []string{"", "beam", "beam ", "beam d", "beam l", "beam u", "beam r"} {
			wantNoBeamIs(t, g, port, text)
		}
	}
}

func TestProofsOfNoGrids(t *testing.T) {
	for _, g := range notGrids() {
		wantNoProofs(t, g)
	}
}

func TestP97P98NoPorts(t *testing.T) {
	for _, g := range append(mixedSizes(), []string{"."}, []string{"rf", "fr"}, crossingRound, gridOfLetters(checkered(5, 5), 5)) {
		for _, port := range noPorts(portsOf(g)) {
			text, ok := impl.ProofBeam(g, port)
			wantNoText(t, name("ProofBeam", g, port), text, ok)
			for _, text := range []string{"", "beam", "beam ", beamText(g, 0), beamText(g, portsOf(g)-1)} {
				wantNoBeamIs(t, g, port, text)
			}
		}
	}
}

func TestProofsLeaveGrids(t *testing.T) {
	for _, given := range [][]string{{"rf", "fr"}, {"rf", "f."}, crossingRound, {"."}} {
		g, all := wholeMemory(given)
		kept := slices.Clone(all)
		for port := range portsOf(g) {
			text, _ := impl.ProofBeam(g, port)
			impl.ProofBeamIs(g, port, text)
		}
		round, _ := impl.ProofRound(g)
		impl.ProofRoundIs(g, round)
		none, _ := impl.ProofNone(g)
		impl.ProofNoneIs(g, none)
		if !slices.Equal(all, kept) {
			t.Errorf("proofs change %q to %q", kept, all)
		}
	}
}

// Calls at the same time return the same, and so do later ones, whatever failed ahead of them.
func TestProofsAtOnce(t *testing.T) {
	var calls sync.WaitGroup
	for range 8 {
		calls.Go(func() {
			wantNoProofs(t, []string{"x"})
			for _, c := range toldBeams() {
				wantNoBeamIs(t, c.g, c.port, c.text+" ")
				wantBeamIs(t, c.g, c.port, c.text, c.end)
			}
			for _, c := range toldNones() {
				wantNoneIs(t, c.g, c.text+" ", false)
				wantNoneIs(t, c.g, c.text, true)
			}
			for _, round := range allRoundTexts(crossingRounds) {
				wantNoRoundIs(t, crossingRounds, round.text+" ")
				wantRoundIs(t, crossingRounds, round.text, round.manyCells)
			}
		})
	}
	calls.Wait()
}
