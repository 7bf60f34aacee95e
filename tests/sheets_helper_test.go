package tests

import (
	"slices"
	"sync"
	"testing"

	"loop.example/floorrooms/impl"
)

// The helpers here do not cut sheets: they put sheets together from what is to come of them.

// noSides are numbers that are no width and no height of a sheet or of a piece.
var noSides = []int{0, 13, -1, -5, -12, -13, 14, 24, 100, 1 << 31, 1<<32 + 5, greatest, -greatest - 1}

// noValues are numbers that no piece is worth.
var noValues = []int{-1, 100, -99, 101, 1 << 31, 1 << 32, greatest, -greatest - 1}

// sheetKinds is a list of kinds of pieces.
type sheetKinds struct{ widths, heights, values []int }

// with returns the kinds and one more.
func (k sheetKinds) with(wide, high, value int) sheetKinds {
	return sheetKinds{
		append(slices.Clone(k.widths), wide), append(slices.Clone(k.heights), high), append(slices.Clone(k.values), value),
	}
}

// turned returns the kinds with all pieces turned.
func (k sheetKinds) turned() sheetKinds {
	return sheetKinds{k.heights, k.widths, k.values}
}

// backwards returns the kinds, the last one first.
func (k sheetKinds) backwards() sheetKinds {
	return sheetKinds{backwards(k.widths), backwards(k.heights), backwards(k.values)}
}

// eachSheet calls a function for the width and the height of all sheets.
func eachSheet(look func(w, h int)) {
	for w := 1; w <= 12; w++ {
		for h := 1; h <= 12; h++ {
			look(w, h)
		}
	}
}

// eachPair calls a function for all sheets with all pieces.
func eachPair(look func(w, h, a, b int)) {
	eachSheet(func(a, b int) {
		eachSheet(func(w, h int) { look(w, h, a, b) })
	})
}

// lowestSheets returns, for each number of pieces from 0 on and each width, the least height of a sheet of which so many pieces come,
// and more than there may be if there is none: sheets of fewer pieces are put below each other or beside each other.
func lowestSheets(a, b int) [][13]int {
	const none = 1000
	var one [13]int
	for w := range one {
		one[w] = none
		if a <= w {
			one[w] = b
		}
		if b <= w {
			one[w] = min(one[w], a)
		}
	}
	lowest := [][13]int{{}, one}
	for n := 2; n <= 144/(a*b); n++ {
		var low [13]int
		low[0] = none
		for w := 1; w <= 12; w++ {
			low[w] = low[w-1]
			for i := 1; i <= n/2; i++ {
				low[w] = min(low[w], lowest[i][w]+lowest[n-i][w])
				for left := 1; left < w; left++ {
					low[w] = min(low[w], max(lowest[i][left], lowest[n-i][w-left]))
				}
			}
		}
		lowest = append(lowest, low)
	}
	return lowest
}

// lowestOf returns lowestSheets of each piece. It is made once.
var lowestOf = sync.OnceValue(func() map[[2]int][][13]int {
	all := map[[2]int][][13]int{}
	eachSheet(func(a, b int) { all[[2]int{a, b}] = lowestSheets(a, b) })
	return all
})

// piecesOf returns the greatest number of pieces that come from a sheet.
func piecesOf(w, h, a, b int) int {
	most := 0
	for n, low := range lowestOf()[[2]int{a, b}] {
		if low[w] <= h {
			most = n
		}
	}
	return most
}

// gridOf returns the number of pieces that lie in rows and columns, by counting corners, the ones turned or the others.
func gridOf(w, h, a, b int) int {
	grid := func(a, b int) int {
		n := 0
		for right := a; right <= w; right += a {
			for below := b; below <= h; below += b {
				n++
			}
		}
		return n
	}
	return max(grid(a, b), grid(b, a))
}

// fewestSquares returns, for all sheets, the least number of squares: those of so many are put together from those of fewer. It is made once.
var fewestSquares = sync.OnceValue(func() map[[2]int]int {
	fewest := map[[2]int]int{}
	made := [][][2]int{nil, nil}
	add := func(n, w, h int) {
		if fewest[[2]int{w, h}] == 0 && w <= 12 && h <= 12 {
			fewest[[2]int{w, h}] = n
			made[n] = append(made[n], [2]int{w, h})
		}
	}
	for side := 1; side <= 12; side++ {
		add(1, side, side)
	}
	for n := 2; len(fewest) < 144; n++ {
		made = append(made, nil)
		for i := 1; i < n; i++ {
			for _, s := range made[i] {
				for _, r := range made[n-i] {
					if s[1] == r[1] {
						add(n, s[0]+r[0], s[1])
					}
					if s[0] == r[0] {
						add(n, s[0], s[1]+r[1])
					}
				}
			}
		}
	}
	return fewest
})

// greedySquares returns the number of squares that are cut off one sheet, as many of one size at once as there are.
func greedySquares(w, h int) int {
	n := 0
	for w, h = max(w, h), min(w, h); h > 0; w, h = h, w%h {
		n += w / h
	}
	return n
}

// worths returns what the sheets of each width and height are worth: sheets are put together, beside and below each other, until none is worth more.
func worths(k sheetKinds) [13][13]int {
	var worth [13][13]int
	raise := func(w, h, value int) bool {
		if w > 12 || h > 12 || worth[w][h] >= value {
			return false
		}
		worth[w][h] = value
		return true
	}
	for i, value := range k.values {
		raise(k.widths[i], k.heights[i], value)
		raise(k.heights[i], k.widths[i], value)
	}
	for again := true; again; {
		again = false
		eachSheet(func(w, h int) {
			if worth[w][h] == 0 {
				return
			}
			eachSheet(func(x, y int) {
				both := worth[w][h] + worth[x][y]
				beside, below := raise(w+x, max(h, y), both), raise(max(w, x), h+y, both)
				again = again || beside || below
			})
		})
	}
	return worth
}

// greatestWorth returns the greatest worth of all sheets that are no wider and no higher.
func greatestWorth(worth [13][13]int, w, h int) int {
	most := 0
	for x := 1; x <= w; x++ {
		most = max(most, slices.Max(worth[x][:h+1]))
	}
	return most
}

// kindLists returns many lists of kinds: of one piece each, of the same piece with other values, turned or not, of pieces that have other
// sizes, and of any.
func kindLists() []sheetKinds {
	var lists []sheetKinds
	state := uint32(9)
	next := func(many int) int {
		state = state*1664525 + 1013904223
		return int(state>>8) % many
	}
	for range 60 {
		a, b, v := 1+next(12), 1+next(12), next(100)
		one := sheetKinds{}.with(a, b, v)
		lists = append(lists, one, one.with(a, b, next(100)), one.with(b, a, next(100)), one.with(a, b, 0).with(b, a, 99).with(a, b, 50))
	}
	for range 100 {
		// Values that go with areas, more or less, so that no kind alone is the best one everywhere.
		var small, any sheetKinds
		for range 2 + next(3) {
			a, b := 1+next(5), 1+next(5)
			small = small.with(a, b, min(99, 3*a*b+next(a+b+2)))
			any = any.with(1+next(12), 1+next(12), next(100))
		}
		lists = append(lists, small, any)
	}
	return lists
}

// changed returns a list with another number at one place.
func changed(list []int, at, number int) []int {
	out := slices.Clone(list)
	out[at] = number
	return out
}

// mustSheet takes a number that a function returned for a sheet and holds it against what it must be.
func mustSheet(t *testing.T, what string, args ...any) func(got int, ok bool, want int) {
	return func(got int, ok bool, want int) {
		t.Helper()
		if !ok || got != want {
			t.Fatalf("%s of %v: %d, %v, not %d", what, args, got, ok, want)
		}
	}
}

// mustHaveNoPieces checks that the functions about sheets and pieces fail.
func mustHaveNoPieces(t *testing.T, w, h, a, b int) {
	t.Helper()
	for what, tell := range map[string]func(w, h, a, b int) (int, bool){
		"SheetMost": impl.SheetMost, "SheetRows": impl.SheetRows, "SheetLoss": impl.SheetLoss,
	} {
		if got, ok := tell(w, h, a, b); ok || got != 0 {
			t.Fatalf("%s of %d, %d, %d, %d: %d, %v, not a failure", what, w, h, a, b, got, ok)
		}
	}
}

// mustHaveNoSquares checks that the functions about sheets alone fail.
func mustHaveNoSquares(t *testing.T, w, h int) {
	t.Helper()
	for what, tell := range map[string]func(w, h int) (int, bool){
		"SheetSquares": impl.SheetSquares, "SheetGreedy": impl.SheetGreedy,
	} {
		if got, ok := tell(w, h); ok || got != 0 {
			t.Fatalf("%s of %d, %d: %d, %v, not a failure", what, w, h, got, ok)
		}
	}
}

// mustHaveNoValue checks that SheetValue fails.
func mustHaveNoValue(t *testing.T, w, h int, k sheetKinds) {
	t.Helper()
	if got, ok := impl.SheetValue(w, h, k.widths, k.heights, k.values); ok || got != 0 {
		t.Fatalf("SheetValue of %d, %d, %v: %d, %v, not a failure", w, h, k, got, ok)
	}
}
