package tests

import (
	"cmp"
	"slices"
	"testing"

	"loop.example/floorrooms/impl"
)

// line is a wall as WallList tells it: 0 or 1, the column or row behind it, its first row or column, its length.
type line [4]int

// linesOf returns the walls of a plan in order, by joining the right and lower sides of its rooms where they touch.
func linesOf(p []string) []line {
	var sides, walls []line
	for _, r := range rectsOf(p) {
		if end := r.column + r.wide; end < len(p[0]) {
			sides = append(sides, line{0, end, r.row, r.high})
		}
		if end := r.row + r.high; end < len(p) {
			sides = append(sides, line{1, end, r.column, r.wide})
		}
	}
	slices.SortFunc(sides, func(a, b line) int { return slices.Compare(a[:], b[:]) })
	for _, s := range sides {
		if n := len(walls); n > 0 && walls[n-1][0] == s[0] && walls[n-1][1] == s[1] && walls[n-1][2]+walls[n-1][3] == s[2] {
			walls[n-1][3] += s[3]
		} else {
			walls = append(walls, s)
		}
	}
	return walls
}

// cornersOf returns at how many points inside a plan as many rooms meet.
func cornersOf(p []string, rooms int) int {
	many := 0
	for row := range len(p) - 1 {
		for column := range len(p[0]) - 1 {
			letters := []byte{p[row][column], p[row][column+1], p[row+1][column], p[row+1][column+1]}
			slices.Sort(letters)
			if len(slices.Compact(letters)) == rooms {
				many++
			}
		}
	}
	return many
}

// outerEnds returns how often the letters change along the four sides of a plan.
func outerEnds(p []string) int {
	columns := flat(p)
	many := 0
	for _, side := range []string{p[0], p[len(p)-1], columns[0], columns[len(columns)-1]} {
		for i := 1; i < len(side); i++ {
			if side[i] != side[i-1] {
				many++
			}
		}
	}
	return many
}

// besideLine returns the rooms whose right or lower side lies on a wall, and those whose left or upper side does, along it.
func besideLine(p []string, w line) ([]int, []int) {
	type placed struct{ at, room int }
	var before, behind []placed
	for room, r := range rectsOf(p) {
		near, far, at := r.column, r.column+r.wide, r.row
		if w[0] == 1 {
			near, far, at = r.row, r.row+r.high, r.column
		}
		if at < w[2] || at >= w[2]+w[3] {
			continue
		}
		if far == w[1] {
			before = append(before, placed{at, room})
		}
		if near == w[1] {
			behind = append(behind, placed{at, room})
		}
	}
	rooms := func(list []placed) []int {
		slices.SortFunc(list, func(a, b placed) int { return cmp.Compare(a.at, b.at) })
		var out []int
		for _, x := range list {
			out = append(out, x.room)
		}
		return out
	}
	return rooms(before), rooms(behind)
}

// mustLines checks WallList of a plan.
func mustLines(t *testing.T, p []string, want []line) {
	t.Helper()
	got, ok := impl.WallList(p)
	same := slices.EqualFunc(got, want, func(a []int, b line) bool { return slices.Equal(a, b[:]) })
	if !ok || !same {
		t.Fatalf("WallList of %q: %v, %v, not %v", p, got, ok, want)
	}
}

// mustNumber takes what a function that returns one number told and holds it against what it must be.
func mustNumber(t *testing.T, what string, p []string) func(got int, ok bool, want int) {
	return func(got int, ok bool, want int) {
		t.Helper()
		if !ok || got != want {
			t.Fatalf("%s of %q: %d, %v, not %d", what, p, got, ok, want)
		}
	}
}
