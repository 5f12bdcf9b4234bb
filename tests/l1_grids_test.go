package tests

import (
	"slices"
	"strconv"
	"strings"
	"testing"

	"loop.example/mirrorgrids/impl"
)

func turn(t *testing.T, g []string) []string {
	t.Helper()
	turned, ok := impl.GridTurn(g)
	must(t, ok, "GridTurn", g)
	return turned
}

func flip(t *testing.T, g []string) []string {
	t.Helper()
	flipped, ok := impl.GridFlip(g)
	must(t, ok, "GridFlip", g)
	return flipped
}

func other(t *testing.T, g []string) []string {
	t.Helper()
	exchanged, ok := impl.GridOther(g)
	must(t, ok, "GridOther", g)
	return exchanged
}

func count(t *testing.T, g []string) int {
	t.Helper()
	mirrors, ok := impl.GridCount(g)
	must(t, ok, "GridCount", g)
	return mirrors
}

func exchange(letter byte) byte {
	switch letter {
	case 'r':
		return 'f'
	case 'f':
		return 'r'
	}
	return letter
}

func TestSideMax(t *testing.T) {
	if impl.SideMax != 5 {
		t.Errorf("SideMax is %d", impl.SideMax)
	}
}

// Promise 1: a grid holds without its last row, and turned.
func TestP1GridIn(t *testing.T) {
	for _, g := range sampleGrids() {
		if !impl.GridIn(g) {
			t.Errorf("GridIn does not hold for %q", g)
		}
		if len(g) > 1 && !impl.GridIn(g[:len(g)-1]) {
			t.Errorf("GridIn does not hold without the last row of %q", g)
		}
		if !impl.GridIn(turn(t, g)) {
			t.Errorf("GridIn does not hold for what GridTurn makes of %q", g)
		}
	}
}

func TestP1NoGrids(t *testing.T) {
	for _, g := range notGrids() {
		if impl.GridIn(g) {
			t.Errorf("GridIn holds for %q", g)
		}
	}
}

func TestP1AllBytes(t *testing.T) {
	for b := range 256 {
		letter := string([]byte{byte(b)})
		want := strings.Contains(".rf", letter)
		for _, g := range [][]string{{letter}, {"r" + letter}, {"..", "." + letter}} {
			if impl.GridIn(g) != want {
				t.Errorf("GridIn is not %v for %q", want, g)
			}
		}
	}
}

func TestP1AllSizes(t *testing.T) {
	for n := range 8 {
		for m := range 8 {
			g := []string{}
			for range n {
				g = append(g, strings.Repeat("r", m))
			}
			want := n >= 1 && n <= 5 && m >= 1 && m <= 5
			if impl.GridIn(g) != want {
				t.Errorf("GridIn is not %v for %d rows and %d columns", want, n, m)
			}
		}
	}
}

// Promise 2: turning four times leads back and keeps the number of mirrors.
func TestP2GridTurn(t *testing.T) {
	for _, g := range sampleGrids() {
		turned := turn(t, g)
		if back := turn(t, turn(t, turn(t, turned))); !slices.Equal(back, g) {
			t.Errorf("four times GridTurn makes %q of %q", back, g)
		}
		if count(t, turned) != count(t, g) {
			t.Errorf("GridTurn changes the number of mirrors of %q", g)
		}
	}
}

func TestP2TurnIsToTheRight(t *testing.T) {
	for _, g := range sampleGrids() {
		want := []string{}
		for column := range len(g[0]) {
			row := ""
			for at := len(g) - 1; at >= 0; at-- {
				row += string(exchange(g[at][column]))
			}
			want = append(want, row)
		}
		wantGrid(t, "GridTurn", turn(t, g), true, want)
	}
	wantGrid(t, "GridTurn", turn(t, []string{"r"}), true, []string{"f"})
	wantGrid(t, "GridTurn", turn(t, []string{"."}), true, []string{"."})
	wantGrid(t, "GridTurn", turn(t, []string{"rf.", "..r"}), true, []string{".f", ".r", "f."})
	wantGrid(t, "GridTurn", turn(t, []string{"r.frr"}), true, []string{"f", ".", "r", "f", "f"})
	wantGrid(t, "GridTurn", turn(t, []string{"r", ".", "f", "f"}), true, []string{"rr.f"})
}

// Promise 3: flipping leads back, and undoes turning from both sides.
func TestP3GridFlip(t *testing.T) {
	for _, g := range sampleGrids() {
		flipped := flip(t, g)
		if back := flip(t, flipped); !slices.Equal(back, g) {
			t.Errorf("GridFlip twice makes %q of %q", back, g)
		}
		if back := turn(t, flip(t, turn(t, flipped))); !slices.Equal(back, g) {
			t.Errorf("flipped, turned, flipped and turned %q is %q", g, back)
		}
		if twice := turn(t, flip(t, turn(t, g))); !slices.Equal(twice, flipped) {
			t.Errorf("turned, flipped and turned %q is %q, but flipped %q", g, twice, flipped)
		}
	}
}

func TestP3FlipIsFromBehind(t *testing.T) {
	for _, g := range sampleGrids() {
		want := []string{}
		for _, text := range g {
			row := []byte{}
			for at := len(text) - 1; at >= 0; at-- {
				row = append(row, exchange(text[at]))
			}
			want = append(want, string(row))
		}
		wantGrid(t, "GridFlip", flip(t, g), true, want)
	}
	wantGrid(t, "GridFlip", flip(t, []string{"f"}), true, []string{"r"})
	wantGrid(t, "GridFlip", flip(t, []string{"rf.", "..r"}), true, []string{".rf", "f.."})
}

// Promise 4: exchanging all mirrors leads back, and goes with turning.
func TestP4GridOther(t *testing.T) {
	for _, g := range sampleGrids() {
		exchanged := other(t, g)
		if back := other(t, exchanged); !slices.Equal(back, g) {
			t.Errorf("GridOther twice makes %q of %q", back, g)
		}
		if turned := turn(t, exchanged); !slices.Equal(turned, other(t, turn(t, g))) {
			t.Errorf("GridOther and GridTurn do not go together for %q", g)
		}
		want := []string{}
		for _, text := range g {
			want = append(want, strings.NewReplacer("r", "f", "f", "r").Replace(text))
		}
		wantGrid(t, "GridOther", exchanged, true, want)
	}
	wantGrid(t, "GridOther", other(t, []string{"rf.", ".r."}), true, []string{"fr.", ".f."})
	wantGrid(t, "GridOther", other(t, []string{"f"}), true, []string{"r"})
}

// Promise 5: the first and the last columns of what GridBeside makes are both grids.
func TestP5GridBeside(t *testing.T) {
	for _, g := range sampleGrids() {
		for _, h := range mixedSizes() {
			checkBeside(t, g, h)
			checkBeside(t, h, g)
		}
	}
	got, ok := impl.GridBeside([]string{"r", "f"}, []string{".f", "rr"})
	wantGrid(t, "GridBeside", got, ok, []string{"r.f", "frr"})
	got, ok = impl.GridBeside([]string{"."}, []string{"r"})
	wantGrid(t, "GridBeside", got, ok, []string{".r"})
}

// mixedSizes returns one grid of each number of rows and of columns.
func mixedSizes() [][]string {
	grids := [][]string{}
	for n := 1; n <= impl.SideMax; n++ {
		for m := 1; m <= impl.SideMax; m++ {
			sample := mixedGrids(n, m, 2)
			grids = append(grids, sample[len(sample)-1])
		}
	}
	return grids
}

func checkBeside(t *testing.T, g, h []string) {
	t.Helper()
	got, ok := impl.GridBeside(g, h)
	m, k := len(g[0]), len(h[0])
	if len(g) != len(h) || m+k > impl.SideMax {
		wantNoGrid(t, "GridBeside", got, ok)
		return
	}
	want := []string{}
	for row := range g {
		want = append(want, g[row]+h[row])
	}
	wantGrid(t, "GridBeside", got, ok, want)
	first, ok := impl.GridPart(got, 0, len(g)-1, 0, m-1)
	wantGrid(t, "GridPart of the first columns", first, ok, g)
	last, ok := impl.GridPart(got, 0, len(g)-1, m, m+k-1)
	wantGrid(t, "GridPart of the last columns", last, ok, h)
}

// Promise 6: what GridUnder makes is, turned, the second grid turned beside the first one turned.
func TestP6GridUnder(t *testing.T) {
	for _, g := range sampleGrids() {
		for _, h := range mixedSizes() {
			checkUnder(t, g, h)
			checkUnder(t, h, g)
		}
	}
	got, ok := impl.GridUnder([]string{"rf"}, []string{"..", "fr"})
	wantGrid(t, "GridUnder", got, ok, []string{"rf", "..", "fr"})
	got, ok = impl.GridUnder([]string{"."}, []string{"r"})
	wantGrid(t, "GridUnder", got, ok, []string{".", "r"})
}

func checkUnder(t *testing.T, g, h []string) {
	t.Helper()
	got, ok := impl.GridUnder(g, h)
	if len(g[0]) != len(h[0]) || len(g)+len(h) > impl.SideMax {
		wantNoGrid(t, "GridUnder", got, ok)
		return
	}
	wantGrid(t, "GridUnder", got, ok, slices.Concat(g, h))
	beside, ok := impl.GridBeside(turn(t, h), turn(t, g))
	wantGrid(t, "GridBeside of both turned", beside, ok, turn(t, got))
}

// Promise 7: GridPart has the rows and columns told, and all of them are the grid.
func TestP7GridPart(t *testing.T) {
	for _, g := range mixedSizes() {
		n, m := len(g), len(g[0])
		for top := -1; top <= n; top++ {
			for low := -1; low <= n; low++ {
				for left := -1; left <= m; left++ {
					for right := -1; right <= m; right++ {
						checkPart(t, g, top, low, left, right)
					}
				}
			}
		}
		whole, ok := impl.GridPart(g, 0, n-1, 0, m-1)
		wantGrid(t, "GridPart of all", whole, ok, g)
	}
	g := []string{"rf.", ".r.", "ff."}
	got, ok := impl.GridPart(g, 1, 2, 0, 1)
	wantGrid(t, "GridPart", got, ok, []string{".r", "ff"})
	got, ok = impl.GridPart(g, 1, 1, 1, 1)
	wantGrid(t, "GridPart", got, ok, []string{"r"})
}

func checkPart(t *testing.T, g []string, top, low, left, right int) {
	t.Helper()
	got, ok := impl.GridPart(g, top, low, left, right)
	if top < 0 || low >= len(g) || top > low || left < 0 || right >= len(g[0]) || left > right {
		wantNoGrid(t, "GridPart", got, ok)
		return
	}
	want := []string{}
	for row := top; row <= low; row++ {
		want = append(want, g[row][left:right+1])
	}
	wantGrid(t, "GridPart", got, ok, want)
}

func TestP7NumbersBeyond(t *testing.T) {
	g := mixedGrids(5, 5, 1)[3]
	for _, number := range someNumbers() {
		if number >= 0 && number < 5 {
			continue
		}
		for at := range 4 {
			told := []int{0, 4, 0, 4}
			told[at] = number
			got, ok := impl.GridPart(g, told[0], told[1], told[2], told[3])
			wantNoGrid(t, "GridPart", got, ok)
		}
		got, ok := impl.GridPart(g, number, number, number, number)
		wantNoGrid(t, "GridPart", got, ok)
	}
}

// Promise 8: all cells are mirrors exactly if the grid is full, and exchanging keeps their number.
func TestP8GridCount(t *testing.T) {
	for _, g := range sampleGrids() {
		mirrors := count(t, g)
		if (mirrors == len(g)*len(g[0])) != impl.GridFull(g) {
			t.Errorf("GridCount %d and GridFull %v do not agree for %q", mirrors, impl.GridFull(g), g)
		}
		if count(t, other(t, g)) != mirrors {
			t.Errorf("GridOther changes the number of mirrors of %q", g)
		}
		all := strings.Join(g, "")
		wantNumber(t, "GridCount", mirrors, true, strings.Count(all, "r")+strings.Count(all, "f"))
	}
}

// Promise 9: a full grid stays full turned and exchanged, and is not with its first cell empty.
func TestP9GridFull(t *testing.T) {
	full := 0
	for _, g := range sampleGrids() {
		if want := !strings.Contains(strings.Join(g, ""), "."); impl.GridFull(g) != want {
			t.Errorf("GridFull is not %v for %q", want, g)
		}
		if !impl.GridFull(g) {
			continue
		}
		full++
		if !impl.GridFull(turn(t, g)) || !impl.GridFull(other(t, g)) {
			t.Errorf("GridFull does not hold for %q turned and exchanged", g)
		}
		hollow, ok := impl.GridPut(g, 0, ".")
		must(t, ok, "GridPut", g)
		if impl.GridFull(hollow) {
			t.Errorf("GridFull holds for %q", hollow)
		}
	}
	if full == 0 {
		t.Error("GridFull holds for no grid")
	}
}

func TestP9OneEmptyCell(t *testing.T) {
	for n := 1; n <= impl.SideMax; n++ {
		for m := 1; m <= impl.SideMax; m++ {
			letters := strings.Repeat("f", n*m)
			for cell := range n * m {
				g := gridOfLetters(letters[:cell]+"."+letters[cell+1:], m)
				if impl.GridFull(g) {
					t.Errorf("GridFull holds for %q", g)
				}
			}
		}
	}
}

// Promise 10: GridPut makes the cell the letter and nothing else, and putting the old letter leads back.
func TestP10GridPut(t *testing.T) {
	for _, g := range sampleGrids() {
		all := strings.Join(g, "")
		for cell := range len(all) {
			for _, letter := range []string{".", "r", "f"} {
				got, ok := impl.GridPut(g, cell, letter)
				wantGrid(t, "GridPut", got, ok, gridOfLetters(all[:cell]+letter+all[cell+1:], len(g[0])))
				back, ok := impl.GridPut(got, cell, all[cell:cell+1])
				wantGrid(t, "GridPut of the old letter", back, ok, g)
			}
		}
	}
	got, ok := impl.GridPut([]string{"r..", "..."}, 4, "f")
	wantGrid(t, "GridPut", got, ok, []string{"r..", ".f."})
	got, ok = impl.GridPut([]string{"."}, 0, "r")
	wantGrid(t, "GridPut", got, ok, []string{"r"})
}

func TestP10OtherLettersAndNumbers(t *testing.T) {
	for _, g := range mixedSizes() {
		cells := len(g) * len(g[0])
		for _, letter := range []string{"", "x", "R", "F", "?", " ", "rf", "r ", ".r", ".rf", "..", "\x00", "\xff", "ü"} {
			got, ok := impl.GridPut(g, 0, letter)
			wantNoGrid(t, "GridPut of "+strconv.Quote(letter), got, ok)
		}
		for _, cell := range append(someNumbers(), cells, cells+1) {
			got, ok := impl.GridPut(g, cell, "r")
			if cell < 0 || cell >= cells {
				wantNoGrid(t, "GridPut at "+strconv.Itoa(cell), got, ok)
			}
		}
	}
}

// Promise 11: GridNumber of the grid that a number tells is the number.
func TestP11GridOf(t *testing.T) {
	for n := 1; n <= impl.SideMax; n++ {
		for m := 1; m <= impl.SideMax; m++ {
			for _, number := range numbersFor(n * m) {
				g, ok := impl.GridOf(n, m, number)
				wantGrid(t, "GridOf "+strconv.Itoa(number), g, ok, gridOfDigits(n, m, number))
				back, ok := impl.GridNumber(g)
				if n*m <= 20 {
					wantNumber(t, "GridNumber", back, ok, number)
				} else {
					wantNoNumber(t, "GridNumber", back, ok)
				}
			}
		}
	}
	got, ok := impl.GridOf(2, 3, 1+2*3+1*27+2*243)
	wantGrid(t, "GridOf", got, ok, []string{"rf.", "r.f"})
	got, ok = impl.GridOf(5, 5, 847288609442)
	wantGrid(t, "GridOf", got, ok, []string{"fffff", "fffff", "fffff", "fffff", "fffff"})
}

// power returns 3 to the power of a number of cells.
func power(cells int) int {
	power := 1
	for range cells {
		power *= 3
	}
	return power
}

// numbersFor returns numbers that tell grids of a number of cells, the least and the greatest one among them.
func numbersFor(cells int) []int {
	numbers := []int{}
	for number := 0; number < power(cells) && number < 729; number++ {
		numbers = append(numbers, number)
	}
	for exponent := range cells {
		numbers = append(numbers, power(exponent), 2*power(exponent), power(exponent+1)-1)
	}
	return numbers
}

func gridOfDigits(n, m, number int) []string {
	digits := strconv.FormatInt(int64(number), 3)
	digits = strings.Repeat("0", n*m-len(digits)) + digits
	letters := []byte{}
	for at := len(digits) - 1; at >= 0; at-- {
		letters = append(letters, ".rf"[digits[at]-'0'])
	}
	return gridOfLetters(string(letters), m)
}

func TestP11OtherNumbers(t *testing.T) {
	for n := 1; n <= impl.SideMax; n++ {
		for m := 1; m <= impl.SideMax; m++ {
			for _, number := range append(someNumbers(), power(n*m), power(n*m)+1, 3*power(n*m), -power(n*m)) {
				got, ok := impl.GridOf(n, m, number)
				if number < 0 || number >= power(n*m) {
					wantNoGrid(t, "GridOf "+strconv.Itoa(number), got, ok)
				}
			}
		}
	}
}

func TestP11OtherSizes(t *testing.T) {
	for _, n := range someNumbers() {
		for _, m := range someNumbers() {
			got, ok := impl.GridOf(n, m, 0)
			if n < 1 || n > 5 || m < 1 || m > 5 {
				wantNoGrid(t, "GridOf", got, ok)
			} else {
				wantGrid(t, "GridOf", got, ok, gridOfLetters(strings.Repeat(".", n*m), m))
			}
		}
	}
}

// Promise 12: GridOf of the number that tells a grid is the grid.
func TestP12GridNumber(t *testing.T) {
	for _, g := range sampleGrids() {
		number, ok := impl.GridNumber(g)
		if len(g)*len(g[0]) > 20 {
			wantNoNumber(t, "GridNumber of 25 cells", number, ok)
			continue
		}
		must(t, ok, "GridNumber", g)
		back, ok := impl.GridOf(len(g), len(g[0]), number)
		wantGrid(t, "GridOf", back, ok, g)
	}
}

func TestP12OrderOfAll(t *testing.T) {
	for _, size := range [][2]int{{1, 1}, {1, 4}, {4, 1}, {2, 2}, {2, 3}, {3, 2}} {
		for want, g := range allGrids(size[0], size[1]) {
			number, ok := impl.GridNumber(g)
			wantNumber(t, "GridNumber", number, ok, want)
		}
	}
}

func TestP12GreatestNumbers(t *testing.T) {
	for _, m := range []int{4, 5} {
		g := gridOfLetters(strings.Repeat("f", 20), m)
		number, ok := impl.GridNumber(g)
		wantNumber(t, "GridNumber of 20 cells", number, ok, 3486784400)
	}
	number, ok := impl.GridNumber([]string{"rf.", "r.f"})
	wantNumber(t, "GridNumber", number, ok, 1+2*3+1*27+2*243)
	number, ok = impl.GridNumber([]string{"f"})
	wantNumber(t, "GridNumber", number, ok, 2)
	number, ok = impl.GridNumber([]string{"....."})
	wantNumber(t, "GridNumber", number, ok, 0)
}

func TestGridsOfNoGrids(t *testing.T) {
	grids := map[string]func([]string) ([]string, bool){
		"GridTurn":              impl.GridTurn,
		"GridFlip":              impl.GridFlip,
		"GridOther":             impl.GridOther,
		"GridBeside, the first": func(g []string) ([]string, bool) { return impl.GridBeside(g, []string{"r"}) },
		"GridBeside, the last":  func(g []string) ([]string, bool) { return impl.GridBeside([]string{"r"}, g) },
		"GridBeside, both":      func(g []string) ([]string, bool) { return impl.GridBeside(g, g) },
		"GridUnder, the first":  func(g []string) ([]string, bool) { return impl.GridUnder(g, []string{"r"}) },
		"GridUnder, the last":   func(g []string) ([]string, bool) { return impl.GridUnder([]string{"r"}, g) },
		"GridUnder, both":       func(g []string) ([]string, bool) { return impl.GridUnder(g, g) },
		"GridPart":              func(g []string) ([]string, bool) { return impl.GridPart(g, 0, 0, 0, 0) },
		"GridPut":               func(g []string) ([]string, bool) { return impl.GridPut(g, 0, "r") },
	}
	for _, g := range notGrids() {
		for name, make := range grids {
			got, ok := make(g)
			wantNoGrid(t, name+" of no grid", got, ok)
		}
		mirrors, ok := impl.GridCount(g)
		wantNoNumber(t, "GridCount of no grid", mirrors, ok)
		number, ok := impl.GridNumber(g)
		wantNoNumber(t, "GridNumber of no grid", number, ok)
		if impl.GridFull(g) {
			t.Errorf("GridFull holds for %q", g)
		}
	}
}

// wholeMemory returns a list with room behind its end, and all of its memory.
func wholeMemory(g []string) ([]string, []string) {
	all := append(slices.Clone(g), "behind", "more")
	return all[:len(g)], all
}

func TestGridsShareNoMemory(t *testing.T) {
	g, all := wholeMemory([]string{"rf", ".r"})
	h, rest := wholeMemory([]string{"f.", "rr"})
	makers := map[string]func() ([]string, bool){
		"GridTurn":   func() ([]string, bool) { return impl.GridTurn(g) },
		"GridFlip":   func() ([]string, bool) { return impl.GridFlip(g) },
		"GridOther":  func() ([]string, bool) { return impl.GridOther(g) },
		"GridBeside": func() ([]string, bool) { return impl.GridBeside(g, h) },
		"GridUnder":  func() ([]string, bool) { return impl.GridUnder(g, h) },
		"GridPart":   func() ([]string, bool) { return impl.GridPart(g, 0, 1, 0, 1) },
		"GridPut":    func() ([]string, bool) { return impl.GridPut(g, 0, "r") },
		"GridOf":     func() ([]string, bool) { return impl.GridOf(2, 2, 5) },
	}
	for name, make := range makers {
		first, ok := make()
		must(t, ok, name, g)
		kept := slices.Clone(first)
		second, _ := make()
		for _, result := range [][]string{second, second[:cap(second)]} {
			for at := range result {
				result[at] = "spoilt"
			}
		}
		wantGrid(t, name+" with another result spoilt", first, true, kept)
		if !slices.Equal(all, []string{"rf", ".r", "behind", "more"}) || !slices.Equal(rest, []string{"f.", "rr", "behind", "more"}) {
			t.Fatalf("%s or what it returned shares memory with its arguments: %q, %q", name, all, rest)
		}
		third, ok := make()
		wantGrid(t, name+" called again", third, ok, kept)
	}
}
