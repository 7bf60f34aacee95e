package tests

import (
	"runtime"
	"slices"
	"sync"
	"testing"

	"loop.example/floorrooms/impl"
)

// shapeCase is what is known by hand of a plain plan with widths and heights.
type shapeCase struct {
	plan            []string
	widths, heights []int
	try, turned     int
	shapes          [][]int
	square          int
	cuttable        bool
}

var shapeCases = []shapeCase{
	// One room, however many cells it has: both ways have the same product, and not turned is the lesser number.
	{[]string{"a"}, []int{1}, []int{1}, 1, 0, [][]int{{1, 1}}, 1, true},
	{[]string{"a"}, []int{9}, []int{9}, 81, 0, [][]int{{9, 9}}, 9, true},
	{[]string{"a"}, []int{1}, []int{9}, 9, 0, [][]int{{1, 9}, {9, 1}}, 9, true},
	{[]string{"aaa", "aaa"}, []int{7}, []int{2}, 14, 0, [][]int{{2, 7}, {7, 2}}, 7, true},
	// Two rooms: a turned is 5 by 1, b turned is 2 by 3, both turned are 4 by 2, and none turned is 3 by 3, which is not best.
	{[]string{"ab"}, []int{1, 2}, []int{3, 1}, 5, 1, [][]int{{2, 3}, {4, 2}, {5, 1}}, 3, true},
	{[]string{"a", "b"}, []int{1, 2}, []int{3, 1}, 5, 2, [][]int{{1, 5}, {2, 4}, {3, 2}}, 3, true},
	// Several sets have the least product: none and both here, either room alone there.
	{[]string{"ab"}, []int{1, 1}, []int{2, 2}, 4, 0, [][]int{{2, 2}, {4, 1}}, 2, true},
	{[]string{"ab"}, []int{2, 2}, []int{1, 1}, 4, 0, [][]int{{2, 2}, {4, 1}}, 2, true},
	{[]string{"ab"}, []int{1, 3}, []int{3, 1}, 6, 1, [][]int{{2, 3}, {6, 1}}, 3, true},
	{[]string{"a", "b"}, []int{1, 3}, []int{3, 1}, 6, 1, [][]int{{1, 6}, {3, 2}}, 3, true},
	// Squares: nothing comes of turning them.
	{[]string{"ab", "cb"}, []int{2, 3, 4}, []int{2, 3, 4}, 42, 0, [][]int{{7, 6}}, 7, true},
	{[]string{"abc"}, []int{9, 9, 9}, []int{9, 9, 9}, 243, 0, [][]int{{27, 9}}, 27, true},
	{[]string{"abc"}, []int{1, 1, 1}, []int{1, 1, 1}, 3, 0, [][]int{{3, 1}}, 3, true},
	// A square between two others: both of them turned, for the less width, make up a height of 3 that the square has, too.
	{[]string{"abc"}, []int{3, 3, 3}, []int{1, 3, 1}, 15, 5, [][]int{{5, 3}}, 5, true},
	// The wheel of four rooms of 2 by 1 around one of 1 by 1 has no space left, one way up; it has no cut.
	{[]string{"aab", "cdb", "cee"}, []int{2, 1, 1, 1, 2}, []int{1, 2, 2, 1, 1}, 9, 0, [][]int{{3, 3}}, 3, false},
	{[]string{"aab", "cdb", "cee"}, []int{1, 2, 2, 1, 1}, []int{2, 1, 1, 1, 2}, 9, 23, [][]int{{3, 3}}, 3, false},
	{[]string{"aab", "cdb", "cee"}, []int{9, 9, 9, 9, 9}, []int{9, 9, 9, 9, 9}, 729, 0, [][]int{{27, 27}}, 27, false},
	// Eight rooms: f, g and h, which lie below each other, are turned together, and the others with them or not.
	{[]string{"abcdef", "abcdeg", "abcdeh"}, []int{1, 1, 1, 1, 1, 1, 1, 1}, []int{9, 9, 9, 9, 9, 9, 9, 9}, 126, 224,
		[][]int{{6, 27}, {14, 9}, {54, 3}}, 14, true},
	{[]string{"abcdef", "abcdeg", "abcdeh"}, []int{9, 9, 9, 9, 9, 9, 9, 9}, []int{1, 1, 1, 1, 1, 1, 1, 1}, 126, 31,
		[][]int{{6, 27}, {14, 9}, {54, 3}}, 14, true},
}

func TestShapesByHand(t *testing.T) {
	for _, c := range shapeCases {
		p, widths, heights := c.plan, c.widths, c.heights
		n, ok := impl.ShapeTry(p, widths, heights)
		mustSize(t, "ShapeTry", p, widths, heights)(n, ok, c.try)
		n, ok = impl.ShapeTurned(p, widths, heights)
		mustSize(t, "ShapeTurned", p, widths, heights)(n, ok, c.turned)
		n, ok = impl.ShapeSquare(p, widths, heights)
		mustSize(t, "ShapeSquare", p, widths, heights)(n, ok, c.square)
		shapes, ok := impl.ShapeAll(p, widths, heights)
		mustShapes(t, "ShapeAll", p, widths, heights)(shapes, ok, c.shapes)
		shapes, ok = impl.ShapeList(p, widths, heights)
		if c.cuttable {
			mustShapes(t, "ShapeList", p, widths, heights)(shapes, ok, c.shapes)
		} else {
			mustFailWithShapes(t, "ShapeList", p, widths, heights)(shapes, ok)
		}
	}
}

func TestHelperShapes(t *testing.T) {
	for _, c := range shapeCases {
		outlines := outlinesOf(c.plan, c.widths, c.heights)
		least, first := leastOf(outlines)
		shapes, square := bestOnes(outlines), squareOf(outlines)
		if least != c.try || first != c.turned || square != c.square || !sameShapes(shapes, c.shapes) {
			t.Errorf("%q with %v and %v has the least product %d with %d turned, the shapes %v and the square %d",
				c.plan, c.widths, c.heights, least, first, shapes, square)
		}
		if cuttable := stuckIn(c.plan, allOf(c.plan)) == nil; cuttable != c.cuttable {
			t.Errorf("%q is cuttable: %v", c.plan, cuttable)
		}
	}
	rooms, kinds := map[int]int{}, map[string]int{}
	for _, c := range turnings() {
		rooms[len(c.widths)]++
		least, first := leastOf(c.outlines)
		_, last := leastOf(backwards(c.outlines))
		for kind, is := range map[string]bool{
			"cuttable":        stuckIn(c.plan, allOf(c.plan)) == nil,
			"not cuttable":    stuckIn(c.plan, allOf(c.plan)) != nil,
			"better turned":   least < c.outlines[0][0]*c.outlines[0][1],
			"of several sets": first > 0 && last != len(c.outlines)-1-first,
			"of many shapes":  len(bestOnes(c.outlines)) > 3,
			"of squares":      slices.Equal(c.widths, c.heights),
			"all 1":           slices.Max(c.widths) == 1,
			"all 9":           slices.Min(c.heights) == 9,
		} {
			if is {
				kinds[kind]++
			}
		}
	}
	for many := 1; many <= 8; many++ {
		if rooms[many] < 400 {
			t.Errorf("%d have %d rooms", rooms[many], many)
		}
	}
	if len(kinds) != 8 {
		t.Errorf("there are only these kinds: %v", kinds)
	}
	for kind, many := range kinds {
		if many < 300 {
			t.Errorf("%d are %s", many, kind)
		}
	}
}

func TestPromise72ShapeTry(t *testing.T) {
	for _, c := range turnings() {
		want, _ := leastOf(c.outlines)
		n, ok := impl.ShapeTry(c.plan, c.widths, c.heights)
		mustSize(t, "ShapeTry", c.plan, c.widths, c.heights)(n, ok, want)
		n, ok = impl.ShapeTry(c.plan, c.heights, c.widths)
		mustSize(t, "ShapeTry", c.plan, c.heights, c.widths)(n, ok, want)
		shapes, _ := impl.ShapeAll(c.plan, c.widths, c.heights)
		var products []int
		for _, s := range shapes {
			products = append(products, s[0]*s[1])
		}
		area, _ := impl.SizeArea(c.plan, c.widths, c.heights)
		if len(products) == 0 || slices.Min(products) != n || n > area {
			t.Fatalf("ShapeTry of %q with %v and %v: %d, and ShapeAll: %v, SizeArea: %d", c.plan, c.widths, c.heights, n, shapes, area)
		}
	}
}

func TestPromise73ShapeList(t *testing.T) {
	for _, c := range turnings() {
		shapes, ok := impl.ShapeList(c.plan, c.widths, c.heights)
		if stuckIn(c.plan, allOf(c.plan)) != nil {
			mustFailWithShapes(t, "ShapeList", c.plan, c.widths, c.heights)(shapes, ok)
			continue
		}
		mustShapes(t, "ShapeList", c.plan, c.widths, c.heights)(shapes, ok, bestOnes(c.outlines))
		all, also := impl.ShapeAll(c.plan, c.widths, c.heights)
		mustShapes(t, "ShapeAll", c.plan, c.widths, c.heights)(all, also, shapes)
	}
}

func TestPromise74ShapeAll(t *testing.T) {
	for _, c := range turnings() {
		shapes, ok := impl.ShapeAll(c.plan, c.widths, c.heights)
		mustShapes(t, "ShapeAll", c.plan, c.widths, c.heights)(shapes, ok, bestOnes(c.outlines))
		for i := 1; i < len(shapes); i++ {
			if a, b := shapes[i-1], shapes[i]; b[0] <= a[0] || b[1] >= a[1] {
				t.Fatalf("ShapeAll of %q with %v and %v: %v", c.plan, c.widths, c.heights, shapes)
			}
		}
		other, ok := impl.ShapeAll(c.plan, c.heights, c.widths)
		mustShapes(t, "ShapeAll", c.plan, c.heights, c.widths)(other, ok, shapes)
	}
}

func TestPromise75ShapeTurned(t *testing.T) {
	for _, c := range turnings() {
		_, want := leastOf(c.outlines)
		set, ok := impl.ShapeTurned(c.plan, c.widths, c.heights)
		mustSize(t, "ShapeTurned", c.plan, c.widths, c.heights)(set, ok, want)
		wide, high := turned(c.widths, c.heights, set)
		area, _ := impl.SizeArea(c.plan, wide, high)
		n, ok := impl.ShapeTry(c.plan, c.widths, c.heights)
		mustSize(t, "ShapeTry", c.plan, c.widths, c.heights)(n, ok, area)
	}
}

func TestPromise76ShapeSquare(t *testing.T) {
	for _, c := range turnings() {
		n, ok := impl.ShapeSquare(c.plan, c.widths, c.heights)
		mustSize(t, "ShapeSquare", c.plan, c.widths, c.heights)(n, ok, squareOf(c.outlines))
		least, _ := impl.ShapeTry(c.plan, c.widths, c.heights)
		shapes, _ := impl.ShapeAll(c.plan, c.widths, c.heights)
		has := slices.ContainsFunc(shapes, func(s []int) bool { return max(s[0], s[1]) == n })
		if n*n < least || !has {
			t.Fatalf("ShapeSquare of %q with %v and %v: %d, and ShapeTry: %d, ShapeAll: %v", c.plan, c.widths, c.heights, n, least, shapes)
		}
	}
}

// TestPromises72To76NoShape checks lists that are no needs for a plan, alone and both, and plans that are not plain or none.
func TestPromises72To76NoShape(t *testing.T) {
	for _, c := range shapeCases {
		for _, wrong := range noNeeds(len(c.widths)) {
			mustHaveNoShape(t, c.plan, wrong, c.heights)
			mustHaveNoShape(t, c.plan, c.widths, wrong)
			mustHaveNoShape(t, c.plan, wrong, wrong)
		}
	}
	for _, p := range notPlain() {
		for _, needs := range needsOfNone() {
			mustHaveNoShape(t, p, needs, needs)
		}
	}
}

// TestPromises72To76NineRooms checks plans of nine rooms, of which chapter 7 tells what is no more told here.
func TestPromises72To76NineRooms(t *testing.T) {
	cuttable, stuck := 0, 0
	for _, p := range nineRooms() {
		for _, pair := range sidesFor(9) {
			if _, ok := impl.SizeArea(p, pair[0], pair[1]); !ok {
				t.Fatalf("SizeArea of %q with %v and %v failed", p, pair[0], pair[1])
			}
			mustHaveNoShape(t, p, pair[0], pair[1])
		}
		if impl.CutIs(p) {
			cuttable++
		} else {
			stuck++
		}
	}
	if min(cuttable, stuck) < 5 {
		t.Errorf("%d are cuttable, %d are not", cuttable, stuck)
	}
}

// TestShapesShareNothing checks that arguments stay as they are, also behind their ends, and that no two lists of results share memory.
func TestShapesShareNothing(t *testing.T) {
	whole, wide, high := []string{"ab", "cb", "cd", "x", "y"}, []int{5, 4, 3, 2, 77, 88}, []int{1, 7, 9, 3, 66, 55}
	plan, widths, heights := slices.Clone(whole), slices.Clone(wide), slices.Clone(high)
	p, w, h := plan[:3], widths[:4], heights[:4]
	for name, tell := range map[string]func([]string, []int, []int) ([][]int, bool){
		"ShapeList": impl.ShapeList, "ShapeAll": impl.ShapeAll,
	} {
		first, _ := tell(p, w, h)
		kept := cloneShapes(first)
		if len(kept) < 3 {
			t.Fatalf("%s of %q with %v and %v: %v, too few to tell", name, p, w, h, kept)
		}
		second, _ := tell(p, w, h)
		for i, s := range second {
			for j := range s[:cap(s)] {
				s[:cap(s)][j] = 99
			}
			if i+1 < len(second) && !slices.Equal(second[i+1], kept[i+1]) {
				t.Errorf("%s has two shapes that share memory: %v", name, second)
			}
		}
		if !sameShapes(first, kept) {
			t.Errorf("%s shares memory with an earlier result: %v", name, first)
		}
		third, ok := tell(p, w, h)
		mustShapes(t, name, p, w, h)(third, ok, kept)
	}
	impl.ShapeTry(p, w, h)
	impl.ShapeTurned(p, w, h)
	impl.ShapeSquare(p, w, h)
	if !slices.Equal(plan, whole) || !slices.Equal(widths, wide) || !slices.Equal(heights, high) {
		t.Errorf("the arguments are now %q, %v and %v", plan, widths, heights)
	}
}

// TestShapesAtOnce checks that results are the same whatever else runs, and that nothing runs on behind the calls.
func TestShapesAtOnce(t *testing.T) {
	before := runtime.NumGoroutine()
	var group sync.WaitGroup
	for range 20 {
		for _, c := range shapeCases {
			group.Add(1)
			go func() {
				defer group.Done()
				set, ok := impl.ShapeTurned(c.plan, c.widths, c.heights)
				shapes, also := impl.ShapeAll(c.plan, c.widths, c.heights)
				if !ok || !also || set != c.turned || !sameShapes(shapes, c.shapes) {
					t.Errorf("%q with %v and %v, asked at once with others: %d, %v", c.plan, c.widths, c.heights, set, shapes)
				}
				impl.ShapeTry(c.plan, c.widths, nil)
				impl.ShapeSquare(c.plan, c.widths, c.heights)
			}()
		}
	}
	group.Wait()
	// What has told that it is done may still be about to end.
	for range 1000000 {
		if runtime.NumGoroutine() <= before {
			return
		}
		runtime.Gosched()
	}
	t.Errorf("%d goroutines ran before, and %d do so now", before, runtime.NumGoroutine())
}
