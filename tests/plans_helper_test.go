package tests

import (
	"slices"
	"testing"

	"loop.example/floorrooms/impl"
)

// The helpers here know plans by the document alone and call nothing of the program,
// so that the tests hold the program's results against something of their own.

// rect is a room: first row, first column, number of rows, number of columns.
type rect struct{ row, column, high, wide int }

// fillPlans returns all plans of some rows and columns, by laying the next room at the first free cell.
func fillPlans(high, wide int) [][]string {
	cells := make([]byte, high*wide)
	var all [][]string
	var fill func(rooms int)
	fill = func(rooms int) {
		at := slices.Index(cells, 0)
		if at < 0 {
			all = append(all, rowsOf(cells, wide))
			return
		}
		if rooms == impl.RoomMax {
			return
		}
		row, column := at/wide, at%wide
		for w := 1; column+w <= wide && cells[at+w-1] == 0; w++ {
			for h := 1; row+h <= high; h++ {
				r := rect{row, column, h, w}
				paint(cells, wide, r, byte('a'+rooms))
				fill(rooms + 1)
				paint(cells, wide, r, 0)
			}
		}
	}
	fill(0)
	return all
}

func paint(cells []byte, wide int, r rect, letter byte) {
	for row := r.row; row < r.row+r.high; row++ {
		for column := r.column; column < r.column+r.wide; column++ {
			cells[row*wide+column] = letter
		}
	}
}

func rowsOf(cells []byte, wide int) []string {
	var rows []string
	for row := range slices.Chunk(cells, wide) {
		rows = append(rows, string(row))
	}
	return rows
}

// rename gives letters anew, in the order of their first cells.
func rename(p []string) []string {
	names := map[byte]byte{}
	var out []string
	for _, row := range p {
		text := []byte(row)
		for i, letter := range text {
			if _, ok := names[letter]; !ok {
				names[letter] = byte('a' + len(names))
			}
			text[i] = names[letter]
		}
		out = append(out, string(text))
	}
	return out
}

// build returns rows of given letters, named anew.
func build(high, wide int, letter func(row, column int) byte) []string {
	cells := make([]byte, high*wide)
	for row := range high {
		for column := range wide {
			cells[row*wide+column] = letter(row, column)
		}
	}
	return rename(rowsOf(cells, wide))
}

// rectsOf returns the smallest rect around each letter of a plan, in the order of the letters.
func rectsOf(p []string) []rect {
	var rects []rect
	for letter := byte('a'); ; letter++ {
		top, left, bottom, right := len(p), len(p[0]), -1, -1
		for row := range p {
			for column := range p[row] {
				if p[row][column] == letter {
					top, bottom = min(top, row), max(bottom, row)
					left, right = min(left, column), max(right, column)
				}
			}
		}
		if bottom < 0 {
			return rects
		}
		rects = append(rects, rect{top, left, bottom - top + 1, right - left + 1})
	}
}

// count returns the number of cells of a letter.
func count(p []string, letter byte) int {
	n := 0
	for _, row := range p {
		for i := range len(row) {
			if row[i] == letter {
				n++
			}
		}
	}
	return n
}

// isPlan tells by the document whether a list is a plan.
func isPlan(p []string) bool {
	if len(p) < 1 || len(p) > 6 || len(p[0]) < 1 || len(p[0]) > 6 {
		return false
	}
	for _, row := range p {
		if len(row) != len(p[0]) {
			return false
		}
	}
	if !slices.Equal(rename(p), p) {
		return false
	}
	rects := rectsOf(p)
	for i, r := range rects {
		if count(p, byte('a'+i)) != r.high*r.wide {
			return false
		}
	}
	return len(rects) <= 9
}

// scatter returns plans of all sizes up to 6 rows and 6 columns and 9 rooms, the same ones each time.
func scatter(many int) [][]string {
	state := uint32(1)
	next := func(n int) int {
		state = state*1664525 + 1013904223
		return int(state>>8) % n
	}
	var plans [][]string
	for range many {
		high, wide := 1+next(6), 1+next(6)
		rects := []rect{{0, 0, high, wide}}
		if high >= 3 && wide >= 3 && next(2) == 0 {
			rects = windmill(high, wide, 1+next(high-2), 1+next(wide-2))
		}
		for range next(40) {
			rects = cutRect(rects, next(len(rects)), next(2), 1+next(5))
		}
		plans = append(plans, build(high, wide, func(row, column int) byte {
			return byte(slices.IndexFunc(rects, func(r rect) bool {
				return r.row <= row && row < r.row+r.high && r.column <= column && column < r.column+r.wide
			}))
		}))
	}
	return plans
}

// windmill returns five rooms around one of a single row and column, which no line can cut.
func windmill(high, wide, row, column int) []rect {
	return []rect{
		{0, 0, row, column + 1},
		{0, column + 1, row + 1, wide - column - 1},
		{row + 1, column, high - row - 1, wide - column},
		{row, 0, high - row, column},
		{row, column, 1, 1},
	}
}

func cutRect(rects []rect, i, way, k int) []rect {
	r := rects[i]
	first, second := r, r
	switch {
	case len(rects) == impl.RoomMax:
		return rects
	case way == 0 && k < r.high:
		first.high, second.row, second.high = k, r.row+k, r.high-k
	case way == 1 && k < r.wide:
		first.wide, second.column, second.wide = k, r.column+k, r.wide-k
	default:
		return rects
	}
	rects[i] = first
	return append(rects, second)
}

// nine is a plan with as many rows, columns and rooms as there may be.
var nine = []string{"aabbcc", "aabbcc", "ddeeff", "ddeeff", "gghhii", "gghhii"}

// somePlans returns plans for the promises: all small ones, and many up to the limits.
func somePlans() [][]string {
	plans := [][]string{{"a"}, nine, {"aaaaaa", "aaaaaa", "aaaaaa", "aaaaaa", "aaaaaa", "aaaaaa"}}
	for _, s := range [][2]int{{1, 2}, {2, 1}, {1, 6}, {6, 1}, {2, 2}, {2, 3}, {3, 2}, {2, 4}, {3, 3}, {2, 5}, {5, 2}} {
		plans = append(plans, fillPlans(s[0], s[1])...)
	}
	return append(plans, scatter(1500)...)
}

// noPlans returns lists that are no plans.
func noPlans() [][]string {
	return [][]string{
		nil, {}, {""}, {"", ""}, {"a", ""}, {"", "a"},
		{"ab", "a"}, {"a", "ab"}, {"aa", "aa", "a"},
		{"b"}, {"ba"}, {"ac"}, {"aac"}, {"acb"}, {"ab", "dc"}, {"z"}, {"aab", "dcb", "dee"},
		{"aba"}, {"a", "b", "a"}, {"ab", "ba"}, {"aa", "ab"}, {"ab", "bb"}, {"ab", "aa"}, {"aab", "abb"},
		{"aaa", "aba", "aaa"}, {"abc", "bbb", "dbe"},
		{"A"}, {"AAB", "CDB", "CEE"}, {"aA"}, {"aab", "cdB", "cee"}, {"a b"}, {" a"}, {"a "}, {"a\n"}, {"a\x00"}, {"\x00"}, {"\xff"},
		{"`"}, {"{"}, {"a{"}, {"a`"}, {"ä"}, {"aä"}, {"0"}, {"a1"}, {"ab-"},
		{"aaaaaaa"}, {"a", "a", "a", "a", "a", "a", "a"}, {"abcdefg"}, {"a", "b", "c", "d", "e", "f", "g"},
		slices.Repeat([]string{"a"}, 1000), {string(slices.Repeat([]byte("a"), 1000))},
		{"abcde", "fghij"}, {"ab", "cd", "ef", "gh", "ij"}, {"abcdef", "ghijkl", "mnopqr", "stuvwx"},
		{"aabbcc", "aabbcc", "ddeeff", "ddeeff", "gghhii", "gghhij"},
	}
}

const greatest = int(^uint(0) >> 1)

// farNumbers are no room, number of rows or anything else.
var farNumbers = []int{-1, -2, -9, 10, 26, 36, 97, 255, 256, 1 << 31, 1 << 32, greatest, -greatest - 1}

func sorted(list []int) []int {
	return slices.Sorted(slices.Values(list))
}

func trans(p []string) []string {
	return build(len(p[0]), len(p), func(row, column int) byte { return p[column][row] })
}

// must takes what a function returned for a plan and holds it against what it must be.
func must(t *testing.T, what string, p []string) func(got []string, ok bool, want []string) {
	return func(got []string, ok bool, want []string) {
		t.Helper()
		if !ok || !slices.Equal(got, want) {
			t.Fatalf("%s of %q: %q, %v, not %q", what, p, got, ok, want)
		}
	}
}

// mustFail checks that a function that returns a list failed.
func mustFail(t *testing.T, what string, p []string) func(got []string, ok bool) {
	return func(got []string, ok bool) {
		t.Helper()
		if ok || len(got) != 0 {
			t.Fatalf("%s of %q: %q, %v, not a failure", what, p, got, ok)
		}
	}
}
