package tests

import (
	"slices"
	"testing"

	"loop.example/floorrooms/impl"
)

// pieceCase is what is known by hand of a sheet and a piece.
type pieceCase struct {
	w, h, a, b       int
	most, rows, loss int
}

var pieceCases = []pieceCase{
	// The least and the greatest sheets and pieces.
	{1, 1, 1, 1, 1, 1, 0},
	{12, 12, 12, 12, 1, 1, 0},
	{12, 12, 1, 1, 144, 144, 0},
	{12, 1, 1, 1, 12, 12, 0},
	{12, 12, 12, 1, 12, 12, 0},
	{1, 1, 12, 12, 0, 0, 1},
	// Pieces as great as the sheet, turned or not, and such as do not fit, or only turned.
	{5, 4, 5, 4, 1, 1, 0},
	{5, 4, 4, 5, 1, 1, 0},
	{1, 12, 12, 1, 1, 1, 0},
	{5, 4, 6, 1, 0, 0, 20},
	{5, 4, 1, 6, 0, 0, 20},
	{5, 4, 5, 5, 0, 0, 20},
	{12, 3, 4, 4, 0, 0, 36},
	{5, 2, 2, 4, 1, 1, 2},
	{2, 5, 4, 2, 1, 1, 2},
	{12, 2, 2, 3, 4, 4, 0},
	{7, 7, 4, 4, 1, 1, 33},
	{8, 7, 4, 4, 2, 2, 24},
	// Some are turned and some are not: two upright, and one that lies beside them.
	{5, 4, 2, 3, 3, 2, 2},
	{4, 5, 2, 3, 3, 2, 2},
	{5, 3, 1, 2, 7, 6, 1},
	{7, 2, 2, 3, 2, 2, 2},
	{5, 6, 2, 3, 5, 4, 0},
	// Four pieces would lie around a hole like a wheel, which has no cut: three come by cutting.
	{5, 5, 2, 3, 3, 2, 7},
	{7, 7, 3, 4, 3, 2, 13},
	{12, 12, 5, 7, 3, 2, 39},
}

// squareCase is what is known by hand of a sheet that is cut into squares.
type squareCase struct{ w, h, squares, greedy int }

var squareCases = []squareCase{
	{1, 1, 1, 1}, {7, 7, 1, 1}, {12, 12, 1, 1},
	{12, 1, 12, 12}, {1, 12, 12, 12}, {2, 1, 2, 2}, {12, 6, 2, 2}, {12, 4, 3, 3}, {6, 4, 3, 3},
	{5, 3, 4, 4}, {3, 5, 4, 4}, {12, 5, 6, 6}, {12, 8, 3, 3}, {12, 9, 4, 4},
	// Two squares of 3 and three of 2 are fewer than one of 5 and five of 1.
	{6, 5, 5, 6}, {5, 6, 5, 6},
	// Two of 3 in a column, beside one of 4 and two of 2.
	{7, 6, 5, 7}, {6, 7, 5, 7},
	// Two of 6 above three of 4, and one of 11 with eleven of 1.
	{12, 10, 5, 6}, {12, 11, 7, 12},
}

// valueCase is what is known by hand of a sheet and kinds of pieces.
type valueCase struct {
	w, h  int
	kinds sheetKinds
	value int
}

var valueCases = []valueCase{
	{1, 1, sheetKinds{[]int{1}, []int{1}, []int{0}}, 0},
	{1, 1, sheetKinds{[]int{1}, []int{1}, []int{99}}, 99},
	{12, 12, sheetKinds{[]int{1}, []int{1}, []int{99}}, 14256},
	{12, 12, sheetKinds{[]int{12}, []int{12}, []int{7}}, 7},
	{12, 12, sheetKinds{[]int{5}, []int{7}, []int{0}}, 0},
	// Pieces that do not fit are worth nothing, and those that fit only turned are worth as much.
	{3, 5, sheetKinds{[]int{4}, []int{4}, []int{99}}, 0},
	{3, 5, sheetKinds{[]int{4, 12, 1, 6}, []int{4, 12, 6, 1}, []int{99, 98, 97, 96}}, 0},
	{3, 5, sheetKinds{[]int{4, 1}, []int{4, 1}, []int{99, 2}}, 30},
	{3, 12, sheetKinds{[]int{12}, []int{3}, []int{50}}, 50},
	{5, 4, sheetKinds{[]int{2}, []int{3}, []int{10}}, 30},
	{5, 5, sheetKinds{[]int{3}, []int{2}, []int{10}}, 30},
	// The greatest value of the same piece counts, wherever it stands, turned or not.
	{5, 4, sheetKinds{[]int{2, 2}, []int{3, 3}, []int{10, 7}}, 30},
	{5, 4, sheetKinds{[]int{2, 2}, []int{3, 3}, []int{7, 10}}, 30},
	{5, 4, sheetKinds{[]int{2, 3}, []int{3, 2}, []int{10, 7}}, 30},
	{5, 4, sheetKinds{[]int{2, 3}, []int{3, 2}, []int{7, 10}}, 30},
	{5, 4, sheetKinds{[]int{2, 3, 2, 3}, []int{3, 2, 3, 2}, []int{0, 99, 99, 1}}, 297},
	// A sheet that is a piece is cut only if this is better.
	{5, 5, sheetKinds{[]int{5, 1}, []int{5, 1}, []int{26, 1}}, 26},
	{5, 5, sheetKinds{[]int{5, 1}, []int{5, 1}, []int{24, 1}}, 25},
	// Four kinds: ten of 1 by 2, then one of 4 by 4 and what is left cut either way, then three of 2 by 3 and one of 1 by 2.
	{5, 4, sheetKinds{[]int{2, 1, 4, 1}, []int{3, 2, 4, 1}, []int{10, 4, 20, 1}}, 40},
	{5, 4, sheetKinds{[]int{2, 1, 4, 1}, []int{3, 2, 4, 1}, []int{10, 2, 36, 1}}, 40},
	{5, 4, sheetKinds{[]int{2, 1, 4, 1}, []int{3, 2, 4, 1}, []int{12, 3, 20, 0}}, 39},
}

func TestSheetsByHand(t *testing.T) {
	for _, c := range pieceCases {
		n, ok := impl.SheetMost(c.w, c.h, c.a, c.b)
		mustSheet(t, "SheetMost", c)(n, ok, c.most)
		n, ok = impl.SheetRows(c.w, c.h, c.a, c.b)
		mustSheet(t, "SheetRows", c)(n, ok, c.rows)
		n, ok = impl.SheetLoss(c.w, c.h, c.a, c.b)
		mustSheet(t, "SheetLoss", c)(n, ok, c.loss)
	}
	for _, c := range squareCases {
		n, ok := impl.SheetSquares(c.w, c.h)
		mustSheet(t, "SheetSquares", c)(n, ok, c.squares)
		n, ok = impl.SheetGreedy(c.w, c.h)
		mustSheet(t, "SheetGreedy", c)(n, ok, c.greedy)
	}
	for _, c := range valueCases {
		n, ok := impl.SheetValue(c.w, c.h, c.kinds.widths, c.kinds.heights, c.kinds.values)
		mustSheet(t, "SheetValue", c)(n, ok, c.value)
	}
}

func TestHelperSheets(t *testing.T) {
	for _, c := range pieceCases {
		if most, rows := piecesOf(c.w, c.h, c.a, c.b), gridOf(c.w, c.h, c.a, c.b); most != c.most || rows != c.rows {
			t.Errorf("%v: %d pieces, %d in rows", c, most, rows)
		}
	}
	for _, c := range squareCases {
		if squares, greedy := fewestSquares()[[2]int{c.w, c.h}], greedySquares(c.w, c.h); squares != c.squares || greedy != c.greedy {
			t.Errorf("%v: %d squares, %d of them greedily", c, squares, greedy)
		}
	}
	for _, c := range valueCases {
		if value := greatestWorth(worths(c.kinds), c.w, c.h); value != c.value {
			t.Errorf("%v: worth %d", c, value)
		}
	}
	mixed, fewer := 0, 0
	eachPair(func(w, h, a, b int) {
		if piecesOf(w, h, a, b) > gridOf(w, h, a, b) {
			mixed++
		}
	})
	eachSheet(func(w, h int) {
		if fewestSquares()[[2]int{w, h}] < greedySquares(w, h) {
			fewer++
		}
	})
	if mixed < 900 || fewer < 20 {
		t.Errorf("%d sheets have more pieces than in rows, and %d fewer squares than greedily", mixed, fewer)
	}
	lengths := map[int]int{}
	for _, k := range kindLists() {
		lengths[len(k.values)]++
	}
	for many := 1; many <= 4; many++ {
		if lengths[many] < 50 {
			t.Errorf("%d lists have %d kinds", lengths[many], many)
		}
	}
}

func TestPromise77SheetMost(t *testing.T) {
	eachPair(func(w, h, a, b int) {
		n, ok := impl.SheetMost(w, h, a, b)
		mustSheet(t, "SheetMost", w, h, a, b)(n, ok, piecesOf(w, h, a, b))
		rows, _ := impl.SheetRows(w, h, a, b)
		if n < rows || n*a*b > w*h {
			t.Fatalf("SheetMost of %d, %d, %d, %d: %d, and SheetRows: %d", w, h, a, b, n, rows)
		}
		for _, args := range [][4]int{{h, w, b, a}, {h, w, a, b}, {w, h, b, a}} {
			other, ok := impl.SheetMost(args[0], args[1], args[2], args[3])
			mustSheet(t, "SheetMost", args)(other, ok, n)
		}
	})
}

func TestPromise78SheetMost(t *testing.T) {
	eachPair(func(w, h, a, b int) {
		if w == 12 {
			return
		}
		n, ok := impl.SheetMost(w, h, a, b)
		more, also := impl.SheetMost(w+1, h, a, b)
		if !ok || !also || n > more {
			t.Fatalf("SheetMost of %d, %d, %d, %d: %d, %v, and of one wider: %d, %v", w, h, a, b, n, ok, more, also)
		}
	})
}

func TestPromise79SheetRows(t *testing.T) {
	eachPair(func(w, h, a, b int) {
		n, ok := impl.SheetRows(w, h, a, b)
		mustSheet(t, "SheetRows", w, h, a, b)(n, ok, gridOf(w, h, a, b))
		for _, args := range [][4]int{{h, w, a, b}, {w, h, b, a}} {
			other, ok := impl.SheetRows(args[0], args[1], args[2], args[3])
			mustSheet(t, "SheetRows", args)(other, ok, n)
		}
		if fits := a <= w && b <= h || a <= h && b <= w; fits != (n > 0) {
			t.Fatalf("SheetRows of %d, %d, %d, %d: %d", w, h, a, b, n)
		}
	})
}

func TestPromise80SheetLoss(t *testing.T) {
	eachPair(func(w, h, a, b int) {
		loss, ok := impl.SheetLoss(w, h, a, b)
		mustSheet(t, "SheetLoss", w, h, a, b)(loss, ok, w*h-a*b*piecesOf(w, h, a, b))
		n, _ := impl.SheetMost(w, h, a, b)
		if loss < 0 || loss+n*a*b != w*h {
			t.Fatalf("SheetLoss of %d, %d, %d, %d: %d, and SheetMost: %d", w, h, a, b, loss, n)
		}
	})
}

// TestPromises77To80NoPieces checks wrong numbers, each one alone and several ones, with pieces that fit and such as do not.
func TestPromises77To80NoPieces(t *testing.T) {
	for _, good := range [][4]int{{5, 4, 2, 3}, {1, 1, 1, 1}, {12, 12, 12, 12}, {1, 1, 12, 12}} {
		w, h, a, b := good[0], good[1], good[2], good[3]
		for _, wrong := range noSides {
			mustHaveNoPieces(t, wrong, h, a, b)
			mustHaveNoPieces(t, w, wrong, a, b)
			mustHaveNoPieces(t, w, h, wrong, b)
			mustHaveNoPieces(t, w, h, a, wrong)
			mustHaveNoPieces(t, wrong, wrong, a, b)
			mustHaveNoPieces(t, w, h, wrong, wrong)
			mustHaveNoPieces(t, wrong, h, wrong, b)
			mustHaveNoPieces(t, wrong, wrong, wrong, wrong)
		}
	}
}

func TestPromise81SheetSquares(t *testing.T) {
	eachSheet(func(w, h int) {
		n, ok := impl.SheetSquares(w, h)
		mustSheet(t, "SheetSquares", w, h)(n, ok, fewestSquares()[[2]int{w, h}])
		other, ok := impl.SheetSquares(h, w)
		mustSheet(t, "SheetSquares", h, w)(other, ok, n)
		greedy, _ := impl.SheetGreedy(w, h)
		if n > greedy || (n == 1) != (w == h) {
			t.Fatalf("SheetSquares of %d, %d: %d, and SheetGreedy: %d", w, h, n, greedy)
		}
	})
}

func TestPromise82SheetGreedy(t *testing.T) {
	eachSheet(func(w, h int) {
		n, ok := impl.SheetGreedy(w, h)
		mustSheet(t, "SheetGreedy", w, h)(n, ok, greedySquares(w, h))
		other, ok := impl.SheetGreedy(h, w)
		mustSheet(t, "SheetGreedy", h, w)(other, ok, n)
		if w > h {
			less, ok := impl.SheetGreedy(w-h, h)
			mustSheet(t, "SheetGreedy", w-h, h)(less, ok, n-1)
		}
	})
}

// TestPromises81And82NoSquares checks wrong numbers, each one alone and both.
func TestPromises81And82NoSquares(t *testing.T) {
	for _, wrong := range noSides {
		for side := 1; side <= 12; side++ {
			mustHaveNoSquares(t, wrong, side)
			mustHaveNoSquares(t, side, wrong)
		}
		mustHaveNoSquares(t, wrong, wrong)
	}
}

func TestPromise83SheetValue(t *testing.T) {
	for _, k := range kindLists() {
		worth := worths(k)
		eachSheet(func(w, h int) {
			n, ok := impl.SheetValue(w, h, k.widths, k.heights, k.values)
			mustSheet(t, "SheetValue", w, h, k)(n, ok, greatestWorth(worth, w, h))
			other, ok := impl.SheetValue(h, w, k.widths, k.heights, k.values)
			mustSheet(t, "SheetValue", h, w, k)(other, ok, n)
			if first, _ := impl.SheetMost(w, h, k.widths[0], k.heights[0]); n < first*k.values[0] {
				t.Fatalf("SheetValue of %d, %d, %v: %d, and SheetMost: %d", w, h, k, n, first)
			}
		})
		for _, same := range []sheetKinds{k.turned(), k.backwards()} {
			n, ok := impl.SheetValue(11, 9, same.widths, same.heights, same.values)
			mustSheet(t, "SheetValue", 11, 9, same)(n, ok, greatestWorth(worth, 11, 9))
		}
	}
}

// TestPromise83OneKind checks that pieces of one kind are worth just as many times its value as come from a sheet.
func TestPromise83OneKind(t *testing.T) {
	eachPair(func(w, h, a, b int) {
		value := (w*h + a + b) % 100
		n, ok := impl.SheetValue(w, h, []int{a}, []int{b}, []int{value})
		mustSheet(t, "SheetValue", w, h, a, b, value)(n, ok, value*piecesOf(w, h, a, b))
	})
}

// TestPromise83NoValue checks sheets that are none, and lists that are none of kinds: with wrong numbers at each place,
// of wrong lengths all together, and each one alone too short or too long.
func TestPromise83NoValue(t *testing.T) {
	good := sheetKinds{}
	for many := 1; many <= 4; many++ {
		good = good.with(many+1, many, 10*many)
		if _, ok := impl.SheetValue(12, 5, good.widths, good.heights, good.values); !ok {
			t.Fatalf("SheetValue of %v failed", good)
		}
		for _, wrong := range noSides {
			mustHaveNoValue(t, wrong, 5, good)
			mustHaveNoValue(t, 12, wrong, good)
			mustHaveNoValue(t, wrong, wrong, good)
			for at := range many {
				mustHaveNoValue(t, 12, 5, sheetKinds{changed(good.widths, at, wrong), good.heights, good.values})
				mustHaveNoValue(t, 12, 5, sheetKinds{good.widths, changed(good.heights, at, wrong), good.values})
			}
		}
		for _, wrong := range noValues {
			for at := range many {
				mustHaveNoValue(t, 12, 5, sheetKinds{good.widths, good.heights, changed(good.values, at, wrong)})
			}
		}
		for length := range 7 {
			if length == many {
				continue
			}
			other := slices.Repeat([]int{1}, length)
			mustHaveNoValue(t, 12, 5, sheetKinds{other, good.heights, good.values})
			mustHaveNoValue(t, 12, 5, sheetKinds{good.widths, other, good.values})
			mustHaveNoValue(t, 12, 5, sheetKinds{good.widths, good.heights, other})
			mustHaveNoValue(t, 12, 5, sheetKinds{other, other, good.values})
			mustHaveNoValue(t, 12, 5, sheetKinds{good.widths, other, other})
			mustHaveNoValue(t, 12, 5, sheetKinds{other, good.heights, other})
		}
	}
	for _, many := range []int{0, 5, 6, 100} {
		ones := slices.Repeat([]int{1}, many)
		mustHaveNoValue(t, 12, 5, sheetKinds{ones, ones, ones})
	}
	mustHaveNoValue(t, 12, 5, sheetKinds{})
	mustHaveNoValue(t, 12, 5, sheetKinds{[]int{}, []int{}, []int{}})
	mustHaveNoValue(t, 0, 0, sheetKinds{})
}

// TestSheetsShareNothing checks that the lists of kinds stay as they are, also behind their ends.
func TestSheetsShareNothing(t *testing.T) {
	whole := sheetKinds{[]int{3, 1, 77}, []int{2, 4, 78}, []int{10, 5, 79}}
	widths, heights, values := slices.Clone(whole.widths), slices.Clone(whole.heights), slices.Clone(whole.values)
	first, ok := impl.SheetValue(7, 5, widths[:2], heights[:2], values[:2])
	if !ok {
		t.Fatal("SheetValue failed")
	}
	again, ok := impl.SheetValue(7, 5, widths[:2], heights[:2], values[:2])
	mustSheet(t, "SheetValue", 7, 5, whole)(again, ok, first)
	if !slices.Equal(widths, whole.widths) || !slices.Equal(heights, whole.heights) || !slices.Equal(values, whole.values) {
		t.Errorf("the arguments are now %v, %v and %v", widths, heights, values)
	}
}
