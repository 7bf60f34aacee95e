package tests

import (
	"cmp"
	"slices"
	"testing"

	"loop.example/floorrooms/impl"
)

// overlap returns how long two stretches lie beside each other.
func overlap(at, long, other, otherLong int) int {
	return max(0, min(at+long, other+otherLong)-max(at, other))
}

// touching returns the number of cells along which one rect lies right above or right left of another one.
func touching(r, s rect) int {
	switch {
	case r.column+r.wide == s.column:
		return overlap(r.row, r.high, s.row, s.high)
	case r.row+r.high == s.row:
		return overlap(r.column, r.wide, s.column, s.wide)
	}
	return 0
}

// lengthsOf returns, for each two rooms of a plan, along how many cells they lie beside each other.
func lengthsOf(p []string) [][]int {
	rects := rectsOf(p)
	var lengths [][]int
	for _, r := range rects {
		var row []int
		for _, s := range rects {
			row = append(row, touching(r, s)+touching(s, r))
		}
		lengths = append(lengths, row)
	}
	return lengths
}

// pairsOf returns the neighbours of a plan, each pair once with their length, in ascending order.
func pairsOf(p []string) [][3]int {
	var pairs [][3]int
	for a, row := range lengthsOf(p) {
		for b, long := range row {
			if a < b && long > 0 {
				pairs = append(pairs, [3]int{a, b, long})
			}
		}
	}
	return pairs
}

// stepsOf returns the fewest steps between each two rooms of a plan, by asking of each third room whether it is on a shorter way.
func stepsOf(p []string) [][]int {
	steps := lengthsOf(p)
	for a, row := range steps {
		for b, long := range row {
			switch {
			case a == b:
				row[b] = 0
			case long > 0:
				row[b] = 1
			default:
				row[b] = 1000
			}
		}
	}
	for c := range steps {
		for a := range steps {
			for b := range steps {
				steps[a][b] = min(steps[a][b], steps[a][c]+steps[c][b])
			}
		}
	}
	return steps
}

// farOf returns the greatest number of steps between two rooms of a plan.
func farOf(p []string) int {
	far := 0
	for _, row := range stepsOf(p) {
		far = max(far, slices.Max(row))
	}
	return far
}

// sideOf returns the rooms at a side of a plan: 0 for the upper one, 1 for the right one, 2 for the lower one, 3 for the left one.
func sideOf(p []string, side int) []int {
	rects := rectsOf(p)
	var rooms []int
	for room, r := range rects {
		if []bool{r.row == 0, r.column+r.wide == len(p[0]), r.row+r.high == len(p), r.column == 0}[side] {
			rooms = append(rooms, room)
		}
	}
	slices.SortFunc(rooms, func(a, b int) int {
		if side == 0 || side == 2 {
			return cmp.Compare(rects[a].column, rects[b].column)
		}
		return cmp.Compare(rects[a].row, rects[b].row)
	})
	return rooms
}

// clash returns the first room of a plan that has the colour of a neighbour ahead of it, and -1 if there is none.
func clash(lengths [][]int, colours []int) int {
	for a := range colours {
		for b := range a {
			if lengths[a][b] > 0 && colours[a] == colours[b] {
				return a
			}
		}
	}
	return -1
}

// coloursOf returns the first list of as few colours as may be for a plan, by counting up through all lists of one colour, of two and so on.
func coloursOf(p []string) []int {
	lengths := lengthsOf(p)
	for many := 1; ; many++ {
		colours := make([]int, len(lengths))
		for {
			at := clash(lengths, colours)
			if at < 0 {
				return colours
			}
			// All lists with the same colours up to this room have the same clash.
			clear(colours[at+1:])
			for at >= 0 && colours[at] == many-1 {
				colours[at] = 0
				at--
			}
			if at < 0 {
				break
			}
			colours[at]++
		}
	}
}

// greedyOf returns the colours that come by giving each room the least one that its neighbours ahead of it do not have.
func greedyOf(p []string) []int {
	lengths := lengthsOf(p)
	var colours []int
	for range lengths {
		colours = append(colours, 0)
		for clash(lengths, colours) >= 0 {
			colours[len(colours)-1]++
		}
	}
	return colours
}

// nearPlans returns plans for the promises about neighbours: the others' plans, and those of three rows and four columns,
// the smallest ones that need four colours.
func nearPlans() [][]string {
	return append(somePlans(), fillPlans(3, 4)...)
}

// noRooms returns numbers that are none of a room of a plan.
func noRooms(p []string) []int {
	return append([]int{len(rectsOf(p))}, farNumbers...)
}

// mustRooms takes a list that a function returned for a plan and holds it against what it must be.
func mustRooms(t *testing.T, what string, p []string) func(got []int, ok bool, want []int) {
	return func(got []int, ok bool, want []int) {
		t.Helper()
		if !ok || !slices.Equal(got, want) {
			t.Fatalf("%s of %q: %v, %v, not %v", what, p, got, ok, want)
		}
	}
}

// mustFailWithRooms checks that a function that returns a list of numbers failed.
func mustFailWithRooms(t *testing.T, what string, p []string) func(got []int, ok bool) {
	return func(got []int, ok bool) {
		t.Helper()
		if ok || len(got) != 0 {
			t.Fatalf("%s of %q: %v, %v, not a failure", what, p, got, ok)
		}
	}
}

// mustHaveNoPair checks that nothing is told of two numbers that are not both rooms of a plan.
func mustHaveNoPair(t *testing.T, p []string, a, b int) {
	t.Helper()
	if impl.NearIs(p, a, b) {
		t.Fatalf("NearIs of %q holds for %d and %d", p, a, b)
	}
	n, ok := impl.NearLength(p, a, b)
	mustFailWithNumber(t, "NearLength", p)(n, ok)
	n, ok = impl.NearWay(p, a, b)
	mustFailWithNumber(t, "NearWay", p)(n, ok)
	q, ok := impl.PlanMerge(p, a, b)
	mustFail(t, "PlanMerge", p)(q, ok)
}
