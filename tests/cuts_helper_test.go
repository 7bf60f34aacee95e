package tests

import (
	"slices"
	"strconv"
	"strings"
	"testing"

	"loop.example/floorrooms/impl"
)

// fall is one way to cut a rect of a plan until all rooms are apart: its cut text,
// its lines with all brackets, by which it differs from others, and its depth.
type fall struct {
	text, lines string
	deep        int
}

// halvesOf returns the rects on both sides of each line from one end of a rect to the other one
// that has two different letters at each cell, with the letter of the line, upright ones first.
func halvesOf(p []string, r rect) (letters []string, halves [][2]rect) {
	for k := 1; k < r.wide; k++ {
		if differAll(p, rect{r.row, r.column + k, r.high, 1}, 0, -1) {
			letters = append(letters, "v")
			halves = append(halves, [2]rect{{r.row, r.column, r.high, k}, {r.row, r.column + k, r.high, r.wide - k}})
		}
	}
	for k := 1; k < r.high; k++ {
		if differAll(p, rect{r.row + k, r.column, 1, r.wide}, -1, 0) {
			letters = append(letters, "h")
			halves = append(halves, [2]rect{{r.row, r.column, k, r.wide}, {r.row + k, r.column, r.high - k, r.wide}})
		}
	}
	return letters, halves
}

// differAll tells whether each cell of a rect has another letter than the one some rows and columns away.
func differAll(p []string, r rect, down, right int) bool {
	for row := r.row; row < r.row+r.high; row++ {
		for column := r.column; column < r.column+r.wide; column++ {
			if p[row][column] == p[row+down][column+right] {
				return false
			}
		}
	}
	return true
}

// lettersIn returns the letters that lie in a rect, in order.
func lettersIn(p []string, r rect) []byte {
	var letters []byte
	for row := r.row; row < r.row+r.high; row++ {
		letters = append(letters, p[row][r.column:r.column+r.wide]...)
	}
	slices.Sort(letters)
	return slices.Compact(letters)
}

// fallsOf returns all ways to cut a rect of a plan, the one along the first lines first.
func fallsOf(p []string, r rect) []fall {
	if letters := lettersIn(p, r); len(letters) == 1 {
		return []fall{{text: strings.ToUpper(string(letters))}}
	}
	var falls []fall
	letters, halves := halvesOf(p, r)
	for i, half := range halves {
		name := letters[i] + strconv.Itoa(half[1].row) + strconv.Itoa(half[1].column)
		behind := fallsOf(p, half[1])
		for _, a := range fallsOf(p, half[0]) {
			for _, b := range behind {
				falls = append(falls, fall{
					text:  letters[i] + a.text + b.text,
					lines: name + "(" + a.lines + ")(" + b.lines + ")",
					deep:  1 + max(a.deep, b.deep),
				})
			}
		}
	}
	return falls
}

// stuckIn returns the rooms of the first rect without lines that cutting a rect along its first lines comes to.
func stuckIn(p []string, r rect) []int {
	letters := lettersIn(p, r)
	_, halves := halvesOf(p, r)
	switch {
	case len(letters) == 1:
		return nil
	case len(halves) == 0:
		var rooms []int
		for _, letter := range letters {
			rooms = append(rooms, int(letter-'a'))
		}
		return rooms
	}
	if rooms := stuckIn(p, halves[0][0]); rooms != nil {
		return rooms
	}
	return stuckIn(p, halves[0][1])
}

// allOf returns the rect of a whole plan.
func allOf(p []string) rect {
	return rect{0, 0, len(p), len(p[0])}
}

// cutLines returns the numbers of the walls that go from one end of a plan to the other one.
func cutLines(p []string) []int {
	var cuts []int
	for i, w := range linesOf(p) {
		if w[0] == 0 && w[3] == len(p) || w[0] == 1 && w[3] == len(p[0]) {
			cuts = append(cuts, i)
		}
	}
	return cuts
}

// mustFailWithNumber checks that a function that returns a number failed.
func mustFailWithNumber(t *testing.T, what string, p []string) func(got int, ok bool) {
	return func(got int, ok bool) {
		t.Helper()
		if ok || got != 0 {
			t.Fatalf("%s of %q: %d, %v, not a failure", what, p, got, ok)
		}
	}
}

// mustKeepNumber checks that a number that a function told of a plan is that of the plan turned, three times, and flipped.
func mustKeepNumber(t *testing.T, what string, tell func([]string) (int, bool), p []string, want int) {
	t.Helper()
	q := p
	for range 3 {
		q, _ = impl.PlanTurn(q)
		got, ok := tell(q)
		mustNumber(t, what, q)(got, ok, want)
	}
	q, _ = impl.PlanFlip(p)
	got, ok := tell(q)
	mustNumber(t, what, q)(got, ok, want)
}

// cutPlans returns plans for the promises about cuts: the others' plans, and so many more that all or a part of some hundreds is stuck,
// up to as many rows, columns and rooms as there may be.
func cutPlans() [][]string {
	plans := append(somePlans(), fillPlans(3, 4)...)
	for _, p := range fillPlans(4, 4) {
		if stuckIn(p, allOf(p)) == nil {
			continue
		}
		plans = append(plans, p, build(6, 6, func(row, column int) byte {
			return p[[]int{0, 1, 1, 2, 3, 3}[row]][[]int{0, 0, 0, 1, 2, 3}[column]]
		}))
	}
	return plans
}
