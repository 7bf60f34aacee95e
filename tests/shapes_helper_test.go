package tests

import (
	"slices"
	"sync"
	"testing"

	"loop.example/floorrooms/impl"
)

// turning is a plain plan of at most eight rooms with a width and a height of each one,
// and the least width and height of the plan for each set of turned rooms, by the set's number.
type turning struct {
	plan            []string
	widths, heights []int
	outlines        [][2]int
}

// sidesFor returns pairs of lists of needs for so many rooms: different ones, squares alone, squares among others,
// and narrow rooms alone, upright and lying.
func sidesFor(many int) [][2][]int {
	lists := needsFor(many)
	var pairs [][2][]int
	for i, list := range lists {
		other := lists[(i+2)%len(lists)]
		mixed := slices.Clone(other)
		for room := 0; room < many; room += 2 {
			mixed[room] = list[room]
		}
		pairs = append(pairs, [2][]int{list, other}, [2][]int{list, list}, [2][]int{mixed, list})
	}
	return append(pairs, [2][]int{lists[0], lists[1]}, [2][]int{lists[1], lists[0]})
}

// turnings returns many plans, each with four pairs of lists of needs; plans of as many rooms have other pairs, one behind the other.
// As all sets are tried here, it is made once.
var turnings = sync.OnceValue(func() []turning {
	var all []turning
	next := map[int]int{}
	for _, p := range orderPlans() {
		many := len(rectsOf(p))
		if many > 8 {
			continue
		}
		pairs := sidesFor(many)
		for range 4 {
			pair := pairs[next[many]%len(pairs)]
			next[many]++
			all = append(all, turning{p, pair[0], pair[1], outlinesOf(p, pair[0], pair[1])})
		}
	}
	return all
})

// outlinesOf returns the least width and height of a plan for each set of turned rooms, by the set's number.
func outlinesOf(p []string, widths, heights []int) [][2]int {
	left, above := ledOf(p, 0), ledOf(p, 1)
	var outlines [][2]int
	for set := range 1 << len(widths) {
		wide, high := turned(widths, heights, set)
		outlines = append(outlines, [2]int{greatestSum(left, wide), greatestSum(above, high)})
	}
	return outlines
}

// turned returns both lists with the needs of the rooms of a set exchanged.
func turned(widths, heights []int, set int) ([]int, []int) {
	wide, high := slices.Clone(widths), slices.Clone(heights)
	for room := range widths {
		if set>>room&1 == 1 {
			wide[room], high[room] = heights[room], widths[room]
		}
	}
	return wide, high
}

// leastOf returns the least product of a width and a height, and the first set that has it.
func leastOf(outlines [][2]int) (int, int) {
	least, first := outlines[0][0]*outlines[0][1], 0
	for set, o := range outlines {
		if product := o[0] * o[1]; product < least {
			least, first = product, set
		}
	}
	return least, first
}

// bestOnes returns the best ones of some widths and heights: for each width on, from 1,
// the least height of those no wider is told where it gets less.
func bestOnes(outlines [][2]int) [][]int {
	var best [][]int
	last := 1000
	for wide := 1; wide <= 8*9; wide++ {
		low := last
		for _, o := range outlines {
			if o[0] <= wide {
				low = min(low, o[1])
			}
		}
		if low < last {
			best = append(best, []int{wide, low})
			last = low
		}
	}
	return best
}

// squareOf returns the least n so that some width and its height are at most n, by trying all from 1 on.
func squareOf(outlines [][2]int) int {
	for n := 1; ; n++ {
		if slices.ContainsFunc(outlines, func(o [2]int) bool { return o[0] <= n && o[1] <= n }) {
			return n
		}
	}
}

// sameShapes tells whether two lists of shapes are the same.
func sameShapes(a, b [][]int) bool {
	return slices.EqualFunc(a, b, slices.Equal[[]int])
}

// cloneShapes returns a copy of a list of shapes.
func cloneShapes(shapes [][]int) [][]int {
	var out [][]int
	for _, s := range shapes {
		out = append(out, slices.Clone(s))
	}
	return out
}

// nineRooms returns plain plans of nine rooms, some cuttable and some not.
func nineRooms() [][]string {
	return slices.DeleteFunc(orderPlans(), func(p []string) bool { return len(rectsOf(p)) != 9 })
}

// mustShapes takes shapes that a function returned for a plan and needs and holds them against what they must be.
func mustShapes(t *testing.T, what string, p []string, widths, heights []int) func(got [][]int, ok bool, want [][]int) {
	return func(got [][]int, ok bool, want [][]int) {
		t.Helper()
		if !ok || !sameShapes(got, want) {
			t.Fatalf("%s of %q with %v and %v: %v, %v, not %v", what, p, widths, heights, got, ok, want)
		}
	}
}

// mustFailWithShapes checks that a function that returns shapes failed.
func mustFailWithShapes(t *testing.T, what string, p []string, widths, heights []int) func(got [][]int, ok bool) {
	return func(got [][]int, ok bool) {
		t.Helper()
		if ok || len(got) != 0 {
			t.Fatalf("%s of %q with %v and %v: %v, %v, not a failure", what, p, widths, heights, got, ok)
		}
	}
}

// mustHaveNoShape checks that all functions about shapes fail.
func mustHaveNoShape(t *testing.T, p []string, widths, heights []int) {
	t.Helper()
	for what, tell := range map[string]func([]string, []int, []int) (int, bool){
		"ShapeTry": impl.ShapeTry, "ShapeTurned": impl.ShapeTurned, "ShapeSquare": impl.ShapeSquare,
	} {
		if got, ok := tell(p, widths, heights); ok || got != 0 {
			t.Fatalf("%s of %q with %v and %v: %d, %v, not a failure", what, p, widths, heights, got, ok)
		}
	}
	shapes, ok := impl.ShapeList(p, widths, heights)
	mustFailWithShapes(t, "ShapeList", p, widths, heights)(shapes, ok)
	shapes, ok = impl.ShapeAll(p, widths, heights)
	mustFailWithShapes(t, "ShapeAll", p, widths, heights)(shapes, ok)
}
