package tests

import (
	"slices"
	"strings"
	"testing"

	"loop.example/mirrorgrids/impl"
)

// gridOfLetters lays a text of all letters, row by row, out as a grid of m columns.
func gridOfLetters(letters string, m int) []string {
	g := []string{}
	for at := 0; at < len(letters); at += m {
		g = append(g, letters[at:at+m])
	}
	return g
}

// allGrids returns all grids of n rows and m columns, in the order of their numbers, found without the program.
func allGrids(n, m int) [][]string {
	texts := []string{""}
	for range n * m {
		longer := []string{}
		for _, letter := range []string{".", "r", "f"} {
			for _, text := range texts {
				longer = append(longer, text+letter)
			}
		}
		texts = longer
	}
	grids := [][]string{}
	for _, text := range texts {
		grids = append(grids, gridOfLetters(text, m))
	}
	return grids
}

// mixedGrids returns some grids of n rows and m columns, always the same ones: the ones of one letter alone, a few without empty cells, and a few of all letters.
func mixedGrids(n, m, many int) [][]string {
	grids := [][]string{}
	for _, letter := range []string{".", "r", "f"} {
		grids = append(grids, gridOfLetters(strings.Repeat(letter, n*m), m))
	}
	state := uint32(n*10 + m)
	for number := range many {
		choice := ".rf"
		if number%3 == 0 {
			choice = "rf"
		}
		letters := []byte{}
		for range n * m {
			state = state*1664525 + 1013904223
			letters = append(letters, choice[int(state>>16)%len(choice)])
		}
		grids = append(grids, gridOfLetters(string(letters), m))
	}
	return grids
}

// sampleGrids returns grids of all numbers of rows and columns: all grids of at most 4 cells, and some of the others.
func sampleGrids() [][]string {
	grids := [][]string{}
	for n := 1; n <= impl.SideMax; n++ {
		for m := 1; m <= impl.SideMax; m++ {
			if n*m <= 4 {
				grids = append(grids, allGrids(n, m)...)
			} else {
				grids = append(grids, mixedGrids(n, m, 12)...)
			}
		}
	}
	return grids
}

// notGrids returns lists that are no grids.
func notGrids() [][]string {
	return [][]string{
		nil,
		{},
		{""},
		{"", ""},
		{"", "r"},
		{"r", ""},
		{"rf", "r"},
		{"r", "rf"},
		{"rf", "fr", "r.f"},
		[]string{"....."}[:0],
		{"......"},
		{"rfrfrf", "rfrfrf"},
		{".....", "......"},
		{".", ".", ".", ".", ".", "."},
		{".....", ".....", ".....", ".....", ".....", "....."},
		{".....", ".....", ".....", ".....", "....x"},
		{"x"},
		{"R"},
		{"F"},
		{" "},
		{"?"},
		{","},
		{"/"},
		{"\x00"},
		{"\n"},
		{"\xff"},
		{"ü"},
		{"r\n"},
		{"r ", " f"},
		{".r", ".2"},
		{strings.Repeat(".", 300)},
		make([]string, 300),
	}
}

// someNumbers returns numbers at and beyond the limits of rows, columns and cells.
func someNumbers() []int {
	const least, greatest = -1 << 63, 1<<63 - 1
	return []int{least, least + 1, -26, -25, -6, -5, -2, -1, 0, 1, 2, 3, 4, 5, 6, 24, 25, 26, 255, 256, greatest - 1, greatest}
}

func must(t *testing.T, ok bool, what string, g []string) {
	t.Helper()
	if !ok {
		t.Fatalf("%s fails for %q", what, g)
	}
}

func wantGrid(t *testing.T, what string, got []string, ok bool, want []string) {
	t.Helper()
	if !ok || !slices.Equal(got, want) {
		t.Errorf("%s returned %q, %v instead of %q", what, got, ok, want)
	}
}

func wantNoGrid(t *testing.T, what string, got []string, ok bool) {
	t.Helper()
	if ok || len(got) > 0 {
		t.Errorf("%s returned %q, %v instead of failing", what, got, ok)
	}
}

func wantNumber(t *testing.T, what string, got int, ok bool, want int) {
	t.Helper()
	if !ok || got != want {
		t.Errorf("%s returned %d, %v instead of %d", what, got, ok, want)
	}
}

func wantNoNumber(t *testing.T, what string, got int, ok bool) {
	t.Helper()
	if ok || got != 0 {
		t.Errorf("%s returned %d, %v instead of failing", what, got, ok)
	}
}

// wantOwnMemory checks that a result stays when another one of the same call is overwritten, and comes again.
func wantOwnMemory[T comparable](t *testing.T, call string, spoilt T, f func() ([]T, bool)) {
	t.Helper()
	first, ok := f()
	kept := slices.Clone(first)
	second, _ := f()
	second = second[:cap(second)]
	for at := range second {
		second[at] = spoilt
	}
	third, again := f()
	if !ok || !again || len(kept) == 0 || !slices.Equal(first, kept) || !slices.Equal(third, kept) {
		t.Errorf("%s returned %v, which is %v with another result spoilt, and then %v", call, kept, first, third)
	}
}
