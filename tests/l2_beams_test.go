package tests

import (
	"slices"
	"strconv"
	"strings"
	"testing"

	"loop.example/mirrorgrids/impl"
)

// Grids of 2 rows and 2 columns whose beam of the port 7 goes through the first cell twice: crossing itself, or at both sides of a mirror.
var (
	crossingGrid = []string{".f", "fr"}
	touchingGrid = []string{"ff", "fr"}
)

// name tells a call in what a test says.
func name(call string, g []string, numbers ...int) string {
	for _, number := range numbers {
		call += " " + strconv.Itoa(number)
	}
	return call + " of " + strings.Join(g, "/")
}

// ofBeam calls a function that must succeed for a grid and a port.
func ofBeam[T any](t *testing.T, call string, f func([]string, int) (T, bool), g []string, port int) T {
	t.Helper()
	got, ok := f(g, port)
	must(t, ok, name(call, g, port), g)
	return got
}

func wantNumbers(t *testing.T, what string, got []int, ok bool, want ...int) {
	t.Helper()
	if !ok || !slices.Equal(got, want) {
		t.Errorf("%s returned %v, %v instead of %v", what, got, ok, want)
	}
}

func wantNoNumbers(t *testing.T, what string, got []int, ok bool) {
	t.Helper()
	if ok || len(got) > 0 {
		t.Errorf("%s returned %v, %v instead of failing", what, got, ok)
	}
}

// everyBeam calls check for each port of each of beamGrids.
func everyBeam(check func(g []string, port int, want followed)) {
	for _, g := range beamGrids() {
		for port := range portsOf(g) {
			check(g, port, follow(g, port))
		}
	}
}

// everyTwoBeams calls check for each two ports, the same one twice among them, of each of beamGrids.
func everyTwoBeams(check func(g []string, p, q int, first, second followed)) {
	for _, g := range beamGrids() {
		beams := []followed{}
		for port := range portsOf(g) {
			beams = append(beams, follow(g, port))
		}
		for p, first := range beams {
			for q, second := range beams {
				check(g, p, q, first, second)
			}
		}
	}
}

func sum(numbers []int) int {
	sum := 0
	for _, number := range numbers {
		sum += number
	}
	return sum
}

// Promise 13: the partner of a port is another one, whose partner is the port.
func TestP13BeamEnd(t *testing.T) {
	everyBeam(func(g []string, port int, want followed) {
		end, ok := impl.BeamEnd(g, port)
		wantNumber(t, name("BeamEnd", g, port), end, ok, want.end)
		if end == port {
			t.Errorf("%s is the port", name("BeamEnd", g, port))
		}
		back, ok := impl.BeamEnd(g, end)
		wantNumber(t, name("BeamEnd", g, end), back, ok, port)
	})
}

func TestP13EndsOfMirrors(t *testing.T) {
	for _, c := range []struct {
		letter string
		ends   []int // for the ports above, to the right, below and to the left
	}{{".", []int{2, 3, 0, 1}}, {"r", []int{3, 2, 1, 0}}, {"f", []int{1, 0, 3, 2}}} {
		for port, want := range c.ends {
			got, ok := impl.BeamEnd([]string{c.letter}, port)
			wantNumber(t, name("BeamEnd", []string{c.letter}, port), got, ok, want)
		}
	}
}

// Ports are numbered round the grid: in one without mirrors, the ends of each column and row are partners.
func TestP13EndsWithoutMirrors(t *testing.T) {
	for n := 1; n <= impl.SideMax; n++ {
		for m := 1; m <= impl.SideMax; m++ {
			g := gridOfLetters(strings.Repeat(".", n*m), m)
			for column := range m {
				end, ok := impl.BeamEnd(g, column)
				wantNumber(t, name("BeamEnd", g, column), end, ok, 2*m+n-1-column)
			}
			for row := range n {
				end, ok := impl.BeamEnd(g, m+row)
				wantNumber(t, name("BeamEnd", g, m+row), end, ok, 2*m+2*n-1-row)
			}
		}
	}
}

// What BeamEnd tells port by port, BeamPairs tells for all ports.
func TestP13BeamPairs(t *testing.T) {
	for _, g := range beamGrids() {
		want := []int{}
		for port := range portsOf(g) {
			want = append(want, follow(g, port).end)
		}
		got, ok := impl.BeamPairs(g)
		wantNumbers(t, name("BeamPairs", g), got, ok, want...)
	}
	got, ok := impl.BeamPairs([]string{"rf", "fr"})
	wantNumbers(t, "BeamPairs", got, ok, 7, 2, 1, 4, 3, 6, 5, 0)
	got, ok = impl.BeamPairs([]string{"r.f"})
	wantNumbers(t, "BeamPairs", got, ok, 7, 5, 3, 2, 6, 1, 4, 0)
	got, ok = impl.BeamPairs([]string{"r", ".", "f"})
	wantNumbers(t, "BeamPairs", got, ok, 7, 3, 6, 1, 5, 4, 2, 0)
}

// Promise 14: the partner's way is the way backwards, and no cell stands in it more than twice.
func TestP14BeamWay(t *testing.T) {
	everyBeam(func(g []string, port int, want followed) {
		cells, ok := impl.BeamWay(g, port)
		wantNumbers(t, name("BeamWay", g, port), cells, ok, want.cells...)
		end := ofBeam(t, "BeamEnd", impl.BeamEnd, g, port)
		back := slices.Clone(cells)
		slices.Reverse(back)
		there, ok := impl.BeamWay(g, end)
		wantNumbers(t, name("BeamWay", g, end), there, ok, back...)
		many := map[int]int{}
		for _, cell := range cells {
			many[cell]++
			if many[cell] > 2 {
				t.Errorf("%s has the cell %d more than twice", name("BeamWay", g, port), cell)
			}
		}
	})
}

func TestP14WaysTold(t *testing.T) {
	for _, c := range []struct {
		g    []string
		port int
		want []int
	}{
		{[]string{"..", ".."}, 0, []int{0, 2}},
		{[]string{"..", ".."}, 3, []int{3, 2}},
		{[]string{"..", ".."}, 4, []int{3, 1}},
		{[]string{"..", ".."}, 6, []int{2, 3}},
		{[]string{"r"}, 2, []int{0}},
		{[]string{"....."}, 11, []int{0, 1, 2, 3, 4}},
		{[]string{"....."}, 5, []int{4, 3, 2, 1, 0}},
		{[]string{".", ".", "f", ".", "."}, 0, []int{0, 1, 2}},
		{crossingGrid, 7, []int{0, 1, 3, 2, 0}},
		{crossingGrid, 0, []int{0, 2, 3, 1, 0}},
		{touchingGrid, 7, []int{0, 2, 3, 1, 0}},
		{[]string{"rf", "fr"}, 0, []int{0}},
		{gridOfLetters(strings.Repeat("r", 25), 5), 19, []int{0}},
		{gridOfLetters(strings.Repeat("r", 25), 5), 15, []int{20, 15, 16, 11, 12, 7, 8, 3, 4}},
	} {
		cells, ok := impl.BeamWay(c.g, c.port)
		wantNumbers(t, name("BeamWay", c.g, c.port), cells, ok, c.want...)
	}
}

// Promise 15: the length is that of BeamWay and the sum of BeamSides, and at most twice the number of cells.
func TestP15BeamLength(t *testing.T) {
	everyBeam(func(g []string, port int, want followed) {
		length, ok := impl.BeamLength(g, port)
		wantNumber(t, name("BeamLength", g, port), length, ok, want.length())
		if way := ofBeam(t, "BeamWay", impl.BeamWay, g, port); len(way) != length {
			t.Errorf("%s is %d, but BeamWay has %d cells", name("BeamLength", g, port), length, len(way))
		}
		if sides := ofBeam(t, "BeamSides", impl.BeamSides, g, port); sum(sides) != length {
			t.Errorf("%s is %d, but BeamSides is %v", name("BeamLength", g, port), length, sides)
		}
		if cells := len(g) * len(g[0]); length < 1 || length > 2*cells {
			t.Errorf("%s is %d for %d cells", name("BeamLength", g, port), length, cells)
		}
	})
	for _, g := range [][]string{crossingGrid, touchingGrid} {
		length, ok := impl.BeamLength(g, 7)
		wantNumber(t, name("BeamLength", g, 7), length, ok, 5)
	}
}

// Promise 16: the number of turns tells whether the port and the partner are both at rows, or both at columns.
func TestP16BeamTurns(t *testing.T) {
	everyBeam(func(g []string, port int, want followed) {
		turns, ok := impl.BeamTurns(g, port)
		wantNumber(t, name("BeamTurns", g, port), turns, ok, want.turns(g))
		if length := ofBeam(t, "BeamLength", impl.BeamLength, g, port); turns > length {
			t.Errorf("%s is %d, more than the length %d", name("BeamTurns", g, port), turns, length)
		}
		end := ofBeam(t, "BeamEnd", impl.BeamEnd, g, port)
		back, ok := impl.BeamTurns(g, end)
		wantNumber(t, name("BeamTurns", g, end), back, ok, turns)
		if (turns%2 == 0) != (atRow(g, port) == atRow(g, end)) {
			t.Errorf("%s is %d, from the port %d to %d", name("BeamTurns", g, port), turns, port, end)
		}
	})
	turns, ok := impl.BeamTurns(crossingGrid, 7)
	wantNumber(t, "BeamTurns of a beam that crosses itself", turns, ok, 3)
	turns, ok = impl.BeamTurns(touchingGrid, 7)
	wantNumber(t, "BeamTurns of a beam that meets both sides of a mirror", turns, ok, 5)
}

// Promise 17: no more than half of a beam's cells are gone through twice, and none of a beam of 3 cells.
func TestP17BeamTwice(t *testing.T) {
	some := 0
	everyBeam(func(g []string, port int, want followed) {
		twice, ok := impl.BeamTwice(g, port)
		wantNumber(t, name("BeamTwice", g, port), twice, ok, want.twice())
		some += twice
		length := ofBeam(t, "BeamLength", impl.BeamLength, g, port)
		if 2*twice > length || length <= 3 && twice != 0 {
			t.Errorf("%s is %d for a length of %d", name("BeamTwice", g, port), twice, length)
		}
		end := ofBeam(t, "BeamEnd", impl.BeamEnd, g, port)
		back, ok := impl.BeamTwice(g, end)
		wantNumber(t, name("BeamTwice", g, end), back, ok, twice)
	})
	if some == 0 {
		t.Error("no beam goes through a cell twice")
	}
	for _, g := range [][]string{crossingGrid, touchingGrid} {
		for port, want := range []int{1, 0, 0, 0, 0, 0, 0, 1} {
			twice, ok := impl.BeamTwice(g, port)
			wantNumber(t, name("BeamTwice", g, port), twice, ok, want)
		}
	}
}

// Promise 18: the sides are of the partner's sum, none is negative, and backwards each heading is the other one.
func TestP18BeamSides(t *testing.T) {
	everyBeam(func(g []string, port int, want followed) {
		counts := make([]int, 4)
		for _, side := range want.sides {
			counts[side]++
		}
		sides, ok := impl.BeamSides(g, port)
		wantNumbers(t, name("BeamSides", g, port), sides, ok, counts...)
		if slices.Min(sides) < 0 {
			t.Errorf("%s is %v", name("BeamSides", g, port), sides)
		}
		end := ofBeam(t, "BeamEnd", impl.BeamEnd, g, port)
		if back := ofBeam(t, "BeamSides", impl.BeamSides, g, end); sum(back) != sum(sides) {
			t.Errorf("%s is %v, and that of the partner %v", name("BeamSides", g, port), sides, back)
		}
	})
}

func TestP18SidesTold(t *testing.T) {
	empty := []string{"...", "..."}
	for port, want := range [][]int{{0, 0, 2, 0}, {0, 0, 2, 0}, {0, 0, 2, 0}, {0, 0, 0, 3}, {0, 0, 0, 3}, {2, 0, 0, 0}, {2, 0, 0, 0}, {2, 0, 0, 0}, {0, 3, 0, 0}, {0, 3, 0, 0}} {
		sides, ok := impl.BeamSides(empty, port)
		wantNumbers(t, name("BeamSides", empty, port), sides, ok, want...)
	}
	sides, ok := impl.BeamSides(crossingGrid, 7)
	wantNumbers(t, "BeamSides", sides, ok, 1, 2, 1, 1)
	sides, ok = impl.BeamSides(crossingGrid, 0)
	wantNumbers(t, "BeamSides", sides, ok, 1, 1, 2, 1)
	sides, ok = impl.BeamSides([]string{"f"}, 1)
	wantNumbers(t, "BeamSides", sides, ok, 0, 0, 0, 1)
}

// Promise 19: no beam is longer than the longest one, and none of a lesser port is as long.
func TestP19BeamLongest(t *testing.T) {
	for _, g := range beamGrids() {
		port, length, ok := impl.BeamLongest(g)
		must(t, ok, "BeamLongest", g)
		own, ok := impl.BeamLength(g, port)
		wantNumber(t, name("BeamLength", g, port), own, ok, length)
		for p := range portsOf(g) {
			if other := follow(g, p).length(); other > length || p < port && other == length {
				t.Errorf("%s is %d with %d cells, but the port %d has %d", name("BeamLongest", g), port, length, p, other)
			}
		}
	}
}

func TestP19LongestTold(t *testing.T) {
	for _, c := range []struct {
		g            []string
		port, length int
	}{
		{[]string{"."}, 0, 1},
		{[]string{"f"}, 0, 1},
		{[]string{"..", ".."}, 0, 2},
		{[]string{"...", "..."}, 3, 3},
		{[]string{"..", "..", ".."}, 0, 3},
		{[]string{"....."}, 5, 5},
		{[]string{".", ".", ".", ".", "."}, 0, 5},
		{gridOfLetters(strings.Repeat(".", 25), 5), 0, 5},
		{gridOfLetters(strings.Repeat("r", 25), 5), 4, 9},
		{crossingGrid, 0, 5},
		{touchingGrid, 0, 5},
	} {
		port, length, ok := impl.BeamLongest(c.g)
		if !ok || port != c.port || length != c.length {
			t.Errorf("%s returned %d, %d, %v instead of %d, %d", name("BeamLongest", c.g), port, length, ok, c.port, c.length)
		}
	}
}

// Promise 20: in a full grid each cell turns a beam, and in one without mirrors none does.
func TestP20FullAndEmpty(t *testing.T) {
	full, empty := 0, 0
	everyBeam(func(g []string, port int, want followed) {
		turns := ofBeam(t, "BeamTurns", impl.BeamTurns, g, port)
		length := ofBeam(t, "BeamLength", impl.BeamLength, g, port)
		letters := strings.Join(g, "")
		if !strings.Contains(letters, ".") {
			full++
			wantNumber(t, name("BeamTurns", g, port), turns, true, length)
		}
		if strings.Trim(letters, ".") == "" {
			empty++
			wantNumber(t, name("BeamTurns", g, port), turns, true, 0)
			if atRow(g, port) {
				wantNumber(t, name("BeamLength", g, port), length, true, len(g[0]))
			} else {
				wantNumber(t, name("BeamLength", g, port), length, true, len(g))
			}
		}
	})
	if full == 0 || empty == 0 {
		t.Errorf("%d full grids and %d without mirrors", full, empty)
	}
}

// Promise 21: two beams meet as often from the other sides, and no more often than they have cells.
func TestP21BeamMeets(t *testing.T) {
	everyTwoBeams(func(g []string, p, q int, want, other followed) {
		meets, ok := impl.BeamMeets(g, p, q)
		if q == p || q == want.end {
			wantNoNumber(t, name("BeamMeets", g, p, q), meets, ok)
			return
		}
		wantNumber(t, name("BeamMeets", g, p, q), meets, ok, want.meets(other))
		back, ok := impl.BeamMeets(g, q, p)
		wantNumber(t, name("BeamMeets", g, q, p), back, ok, meets)
		ends, ok := impl.BeamMeets(g, want.end, other.end)
		wantNumber(t, name("BeamMeets", g, want.end, other.end), ends, ok, meets)
		if meets > min(want.length(), other.length()) {
			t.Errorf("%s is %d", name("BeamMeets", g, p, q), meets)
		}
	})
}

func TestP21MeetsTold(t *testing.T) {
	for _, c := range []struct {
		g          []string
		p, q, want int
	}{
		{[]string{"..", ".."}, 0, 3, 1},
		{[]string{"..", ".."}, 0, 1, 0},
		{[]string{"..", ".."}, 7, 4, 1},
		{[]string{"r"}, 0, 1, 1},
		{[]string{"r"}, 2, 3, 1},
		{[]string{"."}, 0, 1, 1},
		{[]string{"rf"}, 0, 1, 0},
		{crossingGrid, 7, 1, 1},
		{crossingGrid, 1, 3, 0},
		{[]string{".r", ".."}, 5, 6, 1},
		{[]string{"f.", "r."}, 0, 1, 1},
		{[]string{".f", "f."}, 7, 0, 2},
		{[]string{"ff", "fr"}, 0, 1, 1},
	} {
		meets, ok := impl.BeamMeets(c.g, c.p, c.q)
		wantNumber(t, name("BeamMeets", c.g, c.p, c.q), meets, ok, c.want)
	}
}

func TestP21OneBeam(t *testing.T) {
	for _, g := range append(mixedSizes(), crossingGrid, touchingGrid) {
		for port := range portsOf(g) {
			meets, ok := impl.BeamMeets(g, port, port)
			wantNoNumber(t, name("BeamMeets", g, port, port), meets, ok)
			end := follow(g, port).end
			meets, ok = impl.BeamMeets(g, port, end)
			wantNoNumber(t, name("BeamMeets", g, port, end), meets, ok)
		}
	}
}

// Promise 22: the first cell with a mirror is on the way, and each one ahead of it is empty.
func TestP22BeamFirst(t *testing.T) {
	everyBeam(func(g []string, port int, want followed) {
		cell, ok := impl.BeamFirst(g, port)
		if !ok {
			return
		}
		if turns := ofBeam(t, "BeamTurns", impl.BeamTurns, g, port); turns < 1 {
			t.Errorf("%s succeeds with %d turns", name("BeamFirst", g, port), turns)
		}
		letters := strings.Join(g, "")
		at := slices.IndexFunc(want.cells, func(cell int) bool { return letters[cell] != '.' })
		if at < 0 || want.cells[at] != cell {
			t.Errorf("%s is %d on the way %v", name("BeamFirst", g, port), cell, want.cells)
		}
		for _, ahead := range ofBeam(t, "BeamWay", impl.BeamWay, g, port) {
			if ahead == cell {
				break
			}
			if letters[ahead] != '.' {
				t.Errorf("%s is %d, behind the mirror %d", name("BeamFirst", g, port), cell, ahead)
			}
		}
	})
}

func TestP22FirstTold(t *testing.T) {
	for _, c := range []struct {
		g          []string
		port, want int
	}{
		{[]string{"r"}, 0, 0},
		{[]string{".f.r."}, 5, 3},
		{[]string{".f.r."}, 11, 1},
		{[]string{".", "f", ".", "r", "."}, 0, 1},
		{[]string{".", "f", ".", "r", "."}, 6, 3},
		{crossingGrid, 7, 1},
		{crossingGrid, 0, 2},
		{touchingGrid, 7, 0},
	} {
		cell, ok := impl.BeamFirst(c.g, c.port)
		wantNumber(t, name("BeamFirst", c.g, c.port), cell, ok, c.want)
	}
}

// Promise 23: a beam has a first mirror exactly if it is turned, and one that is not turned goes through no cell twice.
func TestP23BeamFirstAndTurns(t *testing.T) {
	straight := 0
	everyBeam(func(g []string, port int, want followed) {
		cell, ok := impl.BeamFirst(g, port)
		turns := ofBeam(t, "BeamTurns", impl.BeamTurns, g, port)
		if ok != (turns != 0) {
			t.Errorf("%s is %v with %d turns", name("BeamFirst", g, port), ok, turns)
		}
		if turns != 0 {
			return
		}
		straight++
		wantNoNumber(t, name("BeamFirst", g, port), cell, ok)
		twice, ok := impl.BeamTwice(g, port)
		wantNumber(t, name("BeamTwice", g, port), twice, ok, 0)
	})
	if straight == 0 {
		t.Error("each beam is turned")
	}
}

func TestP23NoMirror(t *testing.T) {
	for _, c := range []struct {
		g    []string
		port int
	}{{[]string{"."}, 0}, {[]string{"."}, 3}, {[]string{".r", ".."}, 0}, {[]string{".r", ".."}, 6}, {gridOfLetters(strings.Repeat(".", 25), 5), 12}} {
		cell, ok := impl.BeamFirst(c.g, c.port)
		wantNoNumber(t, name("BeamFirst", c.g, c.port), cell, ok)
	}
}

// wantNoBeams checks that each function of a beam fails for a list and a port.
func wantNoBeams(t *testing.T, g []string, port int) {
	t.Helper()
	for call, f := range map[string]func([]string, int) (int, bool){
		"BeamEnd":              impl.BeamEnd,
		"BeamLength":           impl.BeamLength,
		"BeamTurns":            impl.BeamTurns,
		"BeamTwice":            impl.BeamTwice,
		"BeamFirst":            impl.BeamFirst,
		"BeamMeets, the first": func(g []string, port int) (int, bool) { return impl.BeamMeets(g, port, 1) },
		"BeamMeets, the last":  func(g []string, port int) (int, bool) { return impl.BeamMeets(g, 1, port) },
		"BeamMeets, both":      func(g []string, port int) (int, bool) { return impl.BeamMeets(g, port, port) },
	} {
		got, ok := f(g, port)
		wantNoNumber(t, name(call, g, port), got, ok)
	}
	for call, f := range map[string]func([]string, int) ([]int, bool){"BeamWay": impl.BeamWay, "BeamSides": impl.BeamSides} {
		got, ok := f(g, port)
		wantNoNumbers(t, name(call, g, port), got, ok)
	}
}

func TestBeamsOfNoGrids(t *testing.T) {
	for _, g := range notGrids() {
		for _, port := range []int{-1, 0, 1, 2, 3, 4, 20} {
			wantNoBeams(t, g, port)
		}
		pairs, ok := impl.BeamPairs(g)
		wantNoNumbers(t, name("BeamPairs", g), pairs, ok)
		port, length, ok := impl.BeamLongest(g)
		if ok || port != 0 || length != 0 {
			t.Errorf("%s returned %d, %d, %v instead of failing", name("BeamLongest", g), port, length, ok)
		}
	}
}

func TestBeamsOfNoPorts(t *testing.T) {
	for _, g := range append(mixedSizes(), []string{"r"}, []string{"."}, crossingGrid) {
		for _, port := range append(someNumbers(), portsOf(g), portsOf(g)+1) {
			if port < 0 || port >= portsOf(g) {
				wantNoBeams(t, g, port)
			}
		}
	}
}

func TestBeamsShareNoMemory(t *testing.T) {
	g, all := wholeMemory([]string{".f", "fr"})
	for call, f := range map[string]func() ([]int, bool){
		"BeamWay":   func() ([]int, bool) { return impl.BeamWay(g, 7) },
		"BeamSides": func() ([]int, bool) { return impl.BeamSides(g, 7) },
		"BeamPairs": func() ([]int, bool) { return impl.BeamPairs(g) },
	} {
		wantOwnMemory(t, call, -7, f)
	}
	for port := range portsOf(g) {
		impl.BeamEnd(g, port)
		impl.BeamLength(g, port)
		impl.BeamTurns(g, port)
		impl.BeamTwice(g, port)
		impl.BeamFirst(g, port)
		impl.BeamMeets(g, port, 7)
	}
	impl.BeamLongest(g)
	if !slices.Equal(all, []string{".f", "fr", "behind", "more"}) {
		t.Errorf("the grid was changed: %q", all)
	}
}
