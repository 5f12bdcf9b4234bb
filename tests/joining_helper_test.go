package tests

import (
	"slices"
	"strings"

	"loop.example/mirrorgrids/impl"
)

// ofSides is a pairing of n rows and m columns.
type ofSides struct {
	n, m  int
	pairs []int
}

// twoPairings are two pairings of as many rows, to be joined.
type twoPairings struct {
	left, right ofSides
}

// sewnPaths are labels of ports, those of one path having the same, found by merging labels and without going along paths.
type sewnPaths []int

// label returns labels of so many ports, none of which are merged.
func label(ports int) sewnPaths {
	labels := sewnPaths{}
	for port := range ports {
		labels = append(labels, port)
	}
	return labels
}

// merge makes the paths of two ports one.
func (s sewnPaths) merge(one, another int) {
	former, latter := s[one], s[another]
	for port, path := range s {
		if path == former || path == latter {
			s[port] = min(former, latter)
		}
	}
}

// without returns how many paths have none of some ports.
func (s sewnPaths) without(ports []int) int {
	paths := slices.Clone(s)
	for _, port := range ports {
		paths = slices.DeleteFunc(paths, func(path int) bool { return path == s[port] })
	}
	slices.Sort(paths)
	return len(slices.Compact(paths))
}

// spotPort returns the port at a spot of the frame of n rows and m columns (portSpots).
func spotPort(n, m, row, column int) int {
	return slices.Index(portSpots(n, m), [2]int{row, column})
}

// sewn returns the pairing that joins two, and the number of rounds that come.
func (j twoPairings) sewn() ([]int, int) {
	n, m, k := j.left.n, j.left.m, j.right.m
	behind := len(j.left.pairs)
	labels := label(behind + len(j.right.pairs))
	for port, partner := range j.left.pairs {
		labels.merge(port, partner)
	}
	for port, partner := range j.right.pairs {
		labels.merge(behind+port, behind+partner)
	}
	for row := 1; row <= n; row++ {
		labels.merge(spotPort(n, m, row, m+1), behind+spotPort(n, k, row, 0))
	}
	outer := []int{}
	for _, spot := range portSpots(n, m+k) {
		if spot[1] <= m {
			outer = append(outer, spotPort(n, m, spot[0], spot[1]))
		} else {
			outer = append(outer, behind+spotPort(n, k, spot[0], spot[1]-m))
		}
	}
	pairs := []int{}
	for port, at := range outer {
		pairs = append(pairs, slices.IndexFunc(outer, func(other int) bool { return other != outer[port] && labels[other] == labels[at] }))
	}
	return pairs, labels.without(outer)
}

// exchanged returns the pairings the other way round.
func (j twoPairings) exchanged() twoPairings {
	return twoPairings{j.right, j.left}
}

// flipped returns the pairings as they are seen from behind.
func (j twoPairings) flipped() twoPairings {
	return twoPairings{j.right.flipped(), j.left.flipped()}
}

// moved returns the pairing of the same pairs when each spot of the frame of n rows and m columns comes to another one of a frame.
func (p ofSides) moved(n, m int, to func(row, column int) (int, int)) ofSides {
	ports := []int{}
	for _, spot := range portSpots(p.n, p.m) {
		row, column := to(spot[0], spot[1])
		ports = append(ports, spotPort(n, m, row, column))
	}
	moved := ofSides{n, m, make([]int, len(p.pairs))}
	for port, partner := range p.pairs {
		moved.pairs[ports[port]] = ports[partner]
	}
	return moved
}

// flipped returns the pairing as it is seen from behind.
func (p ofSides) flipped() ofSides {
	return p.moved(p.n, p.m, func(row, column int) (int, int) { return row, p.m + 1 - column })
}

// turned returns the pairing turned by a quarter to the right.
func (p ofSides) turned() ofSides {
	return p.moved(p.m, p.n, func(row, column int) (int, int) { return column, p.n + 1 - row })
}

// closed returns the number of rounds that come if both ends of each row are joined.
func (p ofSides) closed() int {
	labels := label(len(p.pairs))
	for port, partner := range p.pairs {
		labels.merge(port, partner)
	}
	for row := 1; row <= p.n; row++ {
		labels.merge(spotPort(p.n, p.m, row, 0), spotPort(p.n, p.m, row, p.m+1))
	}
	outer := []int{}
	for column := 1; column <= p.m; column++ {
		outer = append(outer, spotPort(p.n, p.m, 0, column), spotPort(p.n, p.m, p.n+1, column))
	}
	return labels.without(outer)
}

// followedPairs follows all beams of a grid and returns the partners.
func followedPairs(g []string) []int {
	pairs := []int{}
	for port := range portsOf(g) {
		pairs = append(pairs, follow(g, port).end)
	}
	return pairs
}

// emptyGrid returns the grid of n rows and m columns without mirrors.
func emptyGrid(n, m int) []string {
	return gridOfLetters(strings.Repeat(".", n*m), m)
}

// everySides calls check for all numbers of rows and columns.
func everySides(check func(n, m int)) {
	for n := 1; n <= impl.SideMax; n++ {
		for m := 1; m <= impl.SideMax; m++ {
			check(n, m)
		}
	}
}

// pairingsOf returns pairings of n rows and m columns: all of one row and at most 4 columns and of all others with at most 8 ports, and otherwise some, many of which no grid has.
func pairingsOf(n, m int) []ofSides {
	ports := 2*n + 2*m
	lists := [][]int{}
	if ports <= 8 || n == 1 && m <= 4 {
		lists = allPairings(ports)
	} else {
		lists = append(mixedPairings(ports, 10), neighbours(ports), nested(ports), across(ports), turnedOnce(neighbours(ports)), turnedOnce(nested(ports)))
		for _, g := range append(mixedGrids(n, m, 6), gridOfLetters(checkered(n, m), m)) {
			lists = append(lists, followedPairs(g))
		}
	}
	pairings := []ofSides{}
	for _, list := range lists {
		pairings = append(pairings, ofSides{n, m, list})
	}
	return pairings
}

// fewPairingsOf returns at most so many of pairingsOf, or all of one row.
func fewPairingsOf(n, m, many int) []ofSides {
	pairings := pairingsOf(n, m)
	if n == 1 || len(pairings) <= many {
		return pairings
	}
	few := []ofSides{}
	for at := range many {
		few = append(few, pairings[at*len(pairings)/many])
	}
	return few
}

// everyPairing calls check for each of pairingsOf, of all numbers of rows and columns.
func everyPairing(check func(p ofSides)) {
	everySides(func(n, m int) {
		for _, p := range pairingsOf(n, m) {
			check(p)
		}
	})
}

// everyJoin calls check for pairings of all numbers of rows, and of columns that are together at most SideMax. Those of one row are all there are.
func everyJoin(check func(j twoPairings)) {
	everySides(func(n, m int) {
		for k := 1; m+k <= impl.SideMax; k++ {
			for _, left := range fewPairingsOf(n, m, 22) {
				for _, right := range fewPairingsOf(n, k, 22) {
					check(twoPairings{left, right})
				}
			}
		}
	})
}

// plainFurther returns the pairings of the ports from first on and ahead of behind no pairs of which cross, each one as a list of pairs.
func plainFurther(first, behind int) [][][2]int {
	if first == behind {
		return [][][2]int{nil}
	}
	pairings := [][][2]int{}
	for other := first + 1; other < behind; other += 2 {
		for _, inside := range plainFurther(first+1, other) {
			for _, outside := range plainFurther(other+1, behind) {
				pairings = append(pairings, slices.Concat([][2]int{{first, other}}, inside, outside))
			}
		}
	}
	return pairings
}

// plainPairingsOf returns pairings of n rows and m columns no pairs of which cross, at most so many.
func plainPairingsOf(n, m, many int) []ofSides {
	all := plainFurther(0, 2*n+2*m)
	pairings := []ofSides{}
	for at := range min(many, len(all)) {
		pairs := make([]int, 2*n+2*m)
		for _, pair := range all[at*len(all)/min(many, len(all))] {
			pairs[pair[0]], pairs[pair[1]] = pair[1], pair[0]
		}
		pairings = append(pairings, ofSides{n, m, pairs})
	}
	return pairings
}

// sidesFor returns numbers of rows and columns that are none, as two of a call.
func sidesFor() [][2]int {
	sides := [][2]int{{1<<62 + 1, 1<<62 + 1}, {1, 1<<63 - 1}, {1<<63 - 1, 1}, {1 << 62, 1 << 62}}
	for _, n := range someNumbers() {
		for _, m := range someNumbers() {
			if n < 1 || n > impl.SideMax || m < 1 || m > impl.SideMax {
				sides = append(sides, [2]int{n, m})
			}
		}
	}
	return sides
}

// cut returns the columns of a grid ahead of one, and those from it on.
func cut(g []string, at int) ([]string, []string) {
	left, right := []string{}, []string{}
	for _, row := range g {
		left, right = append(left, row[:at]), append(right, row[at:])
	}
	return left, right
}
