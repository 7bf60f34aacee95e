package tests

import (
	"slices"
	"testing"

	"loop.example/floorrooms/impl"
)

// nearCase is a plan with all that chapter 4 tells of it, worked out by hand:
// each pair of neighbours with their length, the first colours, and the rooms of the four sides.
type nearCase struct {
	plan    []string
	pairs   [][3]int
	far     int
	colours []int
	sides   [4][]int
}

var nearCases = []nearCase{
	// One room, of one cell, in one row, in one column, and of as many cells as there may be.
	{plan: []string{"a"}, colours: []int{0}, sides: [4][]int{{0}, {0}, {0}, {0}}},
	{plan: []string{"aaaaaa"}, colours: []int{0}, sides: [4][]int{{0}, {0}, {0}, {0}}},
	{plan: []string{"a", "a", "a"}, colours: []int{0}, sides: [4][]int{{0}, {0}, {0}, {0}}},
	{plan: []string{"aaaaaa", "aaaaaa", "aaaaaa", "aaaaaa", "aaaaaa", "aaaaaa"}, colours: []int{0}, sides: [4][]int{{0}, {0}, {0}, {0}}},
	// Two rooms, beside each other along one cell and along more.
	{plan: []string{"ab"}, pairs: [][3]int{{0, 1, 1}}, far: 1, colours: []int{0, 1}, sides: [4][]int{{0, 1}, {1}, {0, 1}, {0}}},
	{plan: []string{"a", "b"}, pairs: [][3]int{{0, 1, 1}}, far: 1, colours: []int{0, 1}, sides: [4][]int{{0}, {0, 1}, {1}, {0, 1}}},
	{plan: []string{"aaa", "bbb"}, pairs: [][3]int{{0, 1, 3}}, far: 1, colours: []int{0, 1}, sides: [4][]int{{0}, {0, 1}, {1}, {0, 1}}},
	{plan: []string{"aab", "aab"}, pairs: [][3]int{{0, 1, 2}}, far: 1, colours: []int{0, 1}, sides: [4][]int{{0, 1}, {1}, {0, 1}, {0}}},
	// One row and one column: the way is as long as it can be.
	{
		plan:    []string{"abcdef"},
		pairs:   [][3]int{{0, 1, 1}, {1, 2, 1}, {2, 3, 1}, {3, 4, 1}, {4, 5, 1}},
		far:     5,
		colours: []int{0, 1, 0, 1, 0, 1},
		sides:   [4][]int{{0, 1, 2, 3, 4, 5}, {5}, {0, 1, 2, 3, 4, 5}, {0}},
	},
	{
		plan:    []string{"a", "b", "b", "c"},
		pairs:   [][3]int{{0, 1, 1}, {1, 2, 1}},
		far:     2,
		colours: []int{0, 1, 0},
		sides:   [4][]int{{0}, {0, 1, 2}, {2}, {0, 1, 2}},
	},
	// Three rooms around a point; the rooms of the lower side do not ascend.
	{
		plan:    []string{"ab", "cb"},
		pairs:   [][3]int{{0, 1, 1}, {0, 2, 1}, {1, 2, 1}},
		far:     1,
		colours: []int{0, 1, 2},
		sides:   [4][]int{{0, 1}, {1}, {2, 1}, {0, 2}},
	},
	// Crosses: rooms that touch at a corner only are no neighbours.
	{
		plan:    []string{"ab", "cd"},
		pairs:   [][3]int{{0, 1, 1}, {0, 2, 1}, {1, 3, 1}, {2, 3, 1}},
		far:     2,
		colours: []int{0, 1, 1, 0},
		sides:   [4][]int{{0, 1}, {1, 3}, {2, 3}, {0, 2}},
	},
	{
		plan:    []string{"abb", "cdd", "cee"},
		pairs:   [][3]int{{0, 1, 1}, {0, 2, 1}, {1, 3, 2}, {2, 3, 1}, {2, 4, 1}, {3, 4, 2}},
		far:     2,
		colours: []int{0, 1, 1, 0, 2},
		sides:   [4][]int{{0, 1}, {1, 3, 4}, {2, 4}, {0, 2}},
	},
	// Windmills.
	{
		plan:    []string{"aab", "cdb", "cee"},
		pairs:   [][3]int{{0, 1, 1}, {0, 2, 1}, {0, 3, 1}, {1, 3, 1}, {1, 4, 1}, {2, 3, 1}, {2, 4, 1}, {3, 4, 1}},
		far:     2,
		colours: []int{0, 1, 1, 2, 0},
		sides:   [4][]int{{0, 1}, {1, 4}, {2, 4}, {0, 2}},
	},
	{
		plan:    []string{"abb", "acd", "eed"},
		pairs:   [][3]int{{0, 1, 1}, {0, 2, 1}, {0, 4, 1}, {1, 2, 1}, {1, 3, 1}, {2, 3, 1}, {2, 4, 1}, {3, 4, 1}},
		far:     2,
		colours: []int{0, 1, 2, 0, 1},
		sides:   [4][]int{{0, 1}, {1, 3}, {4, 3}, {0, 4}},
	},
	// Five rooms in a ring around one, which need three colours, and it another one.
	{
		plan: []string{"aabc", "deec", "dfff"},
		pairs: [][3]int{
			{0, 1, 1}, {0, 3, 1}, {0, 4, 1}, {1, 2, 1}, {1, 4, 1},
			{2, 4, 1}, {2, 5, 1}, {3, 4, 1}, {3, 5, 1}, {4, 5, 2},
		},
		far:     2,
		colours: []int{0, 1, 0, 1, 2, 3},
		sides:   [4][]int{{0, 1, 2}, {2, 5}, {3, 5}, {0, 3}},
	},
	// As many rows, columns and rooms as there may be: all walls through crosses, and one cross alone.
	{
		plan: nine,
		pairs: [][3]int{
			{0, 1, 2}, {0, 3, 2}, {1, 2, 2}, {1, 4, 2}, {2, 5, 2}, {3, 4, 2},
			{3, 6, 2}, {4, 5, 2}, {4, 7, 2}, {5, 8, 2}, {6, 7, 2}, {7, 8, 2},
		},
		far:     4,
		colours: []int{0, 1, 0, 1, 0, 1, 0, 1, 0},
		sides:   [4][]int{{0, 1, 2}, {2, 5, 8}, {6, 7, 8}, {0, 3, 6}},
	},
	// The triangles abe, bef, bcf leave c just the colour of e, though that of a is free for it, ahead of d and the others.
	{
		plan: []string{"abbcdd", "abbcdd", "eeffdd", "gghhdd", "ggiiii", "ggiiii"},
		pairs: [][3]int{
			{0, 1, 2}, {0, 4, 1}, {1, 2, 2}, {1, 4, 1}, {1, 5, 1}, {2, 3, 2}, {2, 5, 1}, {3, 5, 1},
			{3, 7, 1}, {3, 8, 2}, {4, 5, 1}, {4, 6, 2}, {5, 7, 2}, {6, 7, 1}, {6, 8, 2}, {7, 8, 2},
		},
		far:     3,
		colours: []int{0, 1, 2, 1, 2, 0, 1, 2, 0},
		sides:   [4][]int{{0, 1, 2, 3}, {3, 8}, {6, 8}, {0, 4, 6}},
	},
}

func TestNearByHand(t *testing.T) {
	for _, c := range nearCases {
		p := c.plan
		var pairs [][3]int
		for a := range c.colours {
			for b := range c.colours {
				if impl.NearIs(p, a, b) && a < b {
					long, _ := impl.NearLength(p, a, b)
					pairs = append(pairs, [3]int{a, b, long})
				}
			}
		}
		if !slices.Equal(pairs, c.pairs) {
			t.Errorf("%q has the neighbours %v, not %v", p, pairs, c.pairs)
		}
		many, ok := impl.NearMany(p)
		mustNumber(t, "NearMany", p)(many, ok, len(c.pairs))
		far, ok := impl.NearFar(p)
		mustNumber(t, "NearFar", p)(far, ok, c.far)
		colours, ok := impl.NearFirst(p)
		mustRooms(t, "NearFirst", p)(colours, ok, c.colours)
		many, ok = impl.NearColours(p)
		mustNumber(t, "NearColours", p)(many, ok, slices.Max(c.colours)+1)
		for side, want := range c.sides {
			rooms, ok := impl.NearOut(p, side)
			mustRooms(t, "NearOut", p)(rooms, ok, want)
		}
	}
}

func TestNearOfByHand(t *testing.T) {
	p := []string{"abbcdd", "abbcdd", "eeffdd", "gghhdd", "ggiiii", "ggiiii"}
	near := [][]int{{1, 4}, {0, 2, 4, 5}, {1, 3, 5}, {2, 5, 7, 8}, {0, 1, 5, 6}, {1, 2, 3, 4, 7}, {4, 7, 8}, {3, 5, 6, 8}, {3, 6, 7}}
	ways := [][]int{
		{0, 1, 2, 3, 1, 2, 2, 3, 3},
		{1, 0, 1, 2, 1, 1, 2, 2, 3},
		{2, 1, 0, 1, 2, 1, 3, 2, 2},
		{3, 2, 1, 0, 2, 1, 2, 1, 1},
		{1, 1, 2, 2, 0, 1, 1, 2, 2},
		{2, 1, 1, 1, 1, 0, 2, 1, 2},
		{2, 2, 3, 2, 1, 2, 0, 1, 1},
		{3, 2, 2, 1, 2, 1, 1, 0, 1},
		{3, 3, 2, 1, 2, 2, 1, 1, 0},
	}
	for a := range near {
		rooms, ok := impl.NearOf(p, a)
		mustRooms(t, "NearOf", p)(rooms, ok, near[a])
		for b := range ways[a] {
			way, ok := impl.NearWay(p, a, b)
			mustNumber(t, "NearWay", p)(way, ok, ways[a][b])
		}
	}
}

func TestHelperNear(t *testing.T) {
	for _, c := range nearCases {
		p := c.plan
		if !isPlan(p) || !slices.Equal(pairsOf(p), c.pairs) || farOf(p) != c.far || !slices.Equal(coloursOf(p), c.colours) {
			t.Errorf("%q has the neighbours %v, the way %d, the colours %v", p, pairsOf(p), farOf(p), coloursOf(p))
		}
		for side, want := range c.sides {
			if got := sideOf(p, side); !slices.Equal(got, want) {
				t.Errorf("%q has the rooms %v at side %d, not %v", p, got, side, want)
			}
		}
	}
	var many [5]int
	later, falling := 0, 0
	for _, p := range nearPlans() {
		colours := coloursOf(p)
		many[slices.Max(colours)+1]++
		if !slices.Equal(greedyOf(p), colours) {
			later++
		}
		if !slices.IsSorted(sideOf(p, 2)) {
			falling++
		}
	}
	if slices.Min(many[1:]) < 20 || later < 20 || falling < 500 {
		t.Errorf("%v plans need so many colours, %d others than the least ones; %d have lower sides that do not ascend", many, later, falling)
	}
}

func TestPromise28PlanMerge(t *testing.T) {
	merged, apart := 0, 0
	for _, p := range append(fillPlans(3, 3), append(scatter(400), nine)...) {
		many, _ := impl.PlanRooms(p)
		for a := range many {
			for b := range many {
				q, ok := impl.PlanMerge(p, a, b)
				if !ok {
					if impl.NearIs(p, a, b) {
						apart++
					}
					continue
				}
				merged++
				if rooms, ok := impl.PlanRooms(q); !ok || rooms != many-1 {
					t.Fatalf("PlanMerge of %q, %d, %d: %q, of %d rooms", p, a, b, q, rooms)
				}
				back, ok := impl.PlanMerge(p, b, a)
				must(t, "PlanMerge", p)(back, ok, q)
				if a == b || !impl.NearIs(p, a, b) {
					t.Fatalf("PlanMerge of %q, %d, %d: %q, and they are no neighbours", p, a, b, q)
				}
			}
		}
	}
	if merged < 1000 || apart < 1000 {
		t.Errorf("only %d pairs were merged, and %d neighbours were not", merged, apart)
	}
}

func TestPromise29WallEnds(t *testing.T) {
	for _, p := range nearPlans() {
		ends, ok := impl.WallEnds(p)
		mustNumber(t, "WallEnds", p)(ends, ok, outerEnds(p))
		many := 0
		for side := range 4 {
			rooms, ok := impl.NearOut(p, side)
			mustRooms(t, "NearOut", p)(rooms, ok, sideOf(p, side))
			many += len(rooms)
		}
		if many != ends+4 {
			t.Fatalf("%q has %d ends of walls, and %d rooms at its sides", p, ends, many)
		}
	}
	for _, p := range noPlans() {
		ends, ok := impl.WallEnds(p)
		mustFailWithNumber(t, "WallEnds", p)(ends, ok)
	}
}

func TestPromise30WallSides(t *testing.T) {
	for _, p := range nearPlans() {
		for wall, w := range linesOf(p) {
			ahead, behind, ok := impl.WallSides(p, wall)
			before, after := besideLine(p, w)
			if !ok || !slices.Equal(ahead, before) || !slices.Equal(behind, after) {
				t.Fatalf("WallSides of %q, %d: %v, %v, %v", p, wall, ahead, behind, ok)
			}
			for _, side := range [][]int{ahead, behind} {
				if len(side) < 1 {
					t.Fatalf("WallSides of %q, %d: %v, %v", p, wall, ahead, behind)
				}
				mustBeInLine(t, p, side)
			}
			if slices.ContainsFunc(ahead, func(room int) bool { return slices.Contains(behind, room) }) {
				t.Fatalf("WallSides of %q, %d: %v, %v", p, wall, ahead, behind)
			}
		}
		for _, wall := range append([]int{len(linesOf(p))}, farNumbers...) {
			if wall < 0 || wall >= len(linesOf(p)) {
				mustHaveNoSides(t, p, wall)
			}
		}
	}
	for _, p := range noPlans() {
		mustHaveNoSides(t, p, 0)
	}
}

// mustBeInLine checks that each room of a list is a neighbour of the next one.
func mustBeInLine(t *testing.T, p []string, rooms []int) {
	t.Helper()
	for i := 1; i < len(rooms); i++ {
		if !impl.NearIs(p, rooms[i-1], rooms[i]) {
			t.Fatalf("%q has no neighbours %d and %d of %v", p, rooms[i-1], rooms[i], rooms)
		}
	}
}

func TestPromise31NearIs(t *testing.T) {
	for _, p := range nearPlans() {
		for a, row := range lengthsOf(p) {
			for b, long := range row {
				is, exchanged := impl.NearIs(p, a, b), impl.NearIs(p, b, a)
				if is != (long > 0) || exchanged != is {
					t.Fatalf("NearIs of %q, %d, %d: %v, and exchanged %v", p, a, b, is, exchanged)
				}
				if !is {
					continue
				}
				if n, ok := impl.NearLength(p, a, b); !ok || n < 1 {
					t.Fatalf("NearLength of neighbours of %q, %d, %d: %d, %v", p, a, b, n, ok)
				}
				way, ok := impl.NearWay(p, a, b)
				mustNumber(t, "NearWay", p)(way, ok, 1)
			}
			if impl.NearIs(p, a, a) {
				t.Fatalf("%q has a room %d beside itself", p, a)
			}
		}
	}
}

// TestPromises31To35NoRooms checks what is asked of rooms of which one or both are none of the plan, or of no plan.
func TestPromises31To35NoRooms(t *testing.T) {
	for _, p := range append(fillPlans(2, 3), []string{"a"}, []string{"aab", "cdb", "cee"}, nine) {
		last := len(rectsOf(p)) - 1
		for _, far := range noRooms(p) {
			for _, pair := range [][2]int{{0, far}, {far, 0}, {last, far}, {far, last}, {far, far}, {far, -1}} {
				mustHaveNoPair(t, p, pair[0], pair[1])
			}
			rooms, ok := impl.NearOf(p, far)
			mustFailWithRooms(t, "NearOf", p)(rooms, ok)
		}
	}
	for _, p := range noPlans() {
		for _, pair := range [][2]int{{0, 0}, {0, 1}, {1, 0}, {1, 1}, {-1, 0}} {
			mustHaveNoPair(t, p, pair[0], pair[1])
			rooms, ok := impl.NearOf(p, pair[0])
			mustFailWithRooms(t, "NearOf", p)(rooms, ok)
		}
	}
}

func TestPromise32NearLength(t *testing.T) {
	for _, p := range nearPlans() {
		rects := rectsOf(p)
		for a, row := range lengthsOf(p) {
			for b, long := range row {
				n, ok := impl.NearLength(p, a, b)
				if a == b {
					mustFailWithNumber(t, "NearLength", p)(n, ok)
					continue
				}
				mustNumber(t, "NearLength", p)(n, ok, long)
				exchanged, ok := impl.NearLength(p, b, a)
				mustNumber(t, "NearLength", p)(exchanged, ok, n)
				if (n > 0) != impl.NearIs(p, a, b) {
					t.Fatalf("NearLength of %q, %d, %d: %d, and NearIs: %v", p, a, b, n, n == 0)
				}
				r, s := rects[a], rects[b]
				if n > min(r.high, s.high) && n > min(r.wide, s.wide) {
					t.Fatalf("NearLength of %q, %d, %d: %d, for rooms %v and %v", p, a, b, n, r, s)
				}
			}
		}
	}
}

func TestPromise33NearMany(t *testing.T) {
	plain, crossed := 0, 0
	for _, p := range nearPlans() {
		many, ok := impl.NearMany(p)
		mustNumber(t, "NearMany", p)(many, ok, len(pairsOf(p)))
		ends := 0
		for a := range rectsOf(p) {
			rooms, _ := impl.NearOf(p, a)
			ends += len(rooms)
		}
		mustNumber(t, "NearMany twice", p)(2*many, ok, ends)
		standing, lying, _ := impl.WallMany(p)
		outer, _ := impl.WallEnds(p)
		if !impl.WallPlain(p) {
			crossed++
			continue
		}
		plain++
		mustNumber(t, "NearMany", p)(many, ok, 3*(standing+lying)-outer)
	}
	if plain < 500 || crossed < 500 {
		t.Errorf("only %d plain plans and %d others", plain, crossed)
	}
	for _, p := range noPlans() {
		many, ok := impl.NearMany(p)
		mustFailWithNumber(t, "NearMany", p)(many, ok)
	}
}

func TestPromise34NearOf(t *testing.T) {
	for _, p := range nearPlans() {
		lengths := lengthsOf(p)
		for a, row := range lengths {
			var want []int
			for b, long := range row {
				if long > 0 {
					want = append(want, b)
				}
			}
			rooms, ok := impl.NearOf(p, a)
			mustRooms(t, "NearOf", p)(rooms, ok, want)
			if (len(rooms) == 0) != (len(lengths) == 1) {
				t.Fatalf("NearOf of %q, %d: %v, of %d rooms", p, a, rooms, len(lengths))
			}
			for i, b := range rooms {
				if b == a || !impl.NearIs(p, a, b) || i > 0 && rooms[i-1] >= b {
					t.Fatalf("NearOf of %q, %d: %v", p, a, rooms)
				}
			}
		}
	}
}

func TestPromise35NearWay(t *testing.T) {
	for _, p := range nearPlans() {
		ways := stepsOf(p)
		for a, row := range ways {
			for b, want := range row {
				way, ok := impl.NearWay(p, a, b)
				mustNumber(t, "NearWay", p)(way, ok, want)
				ways[a][b] = way
			}
		}
		for a, row := range ways {
			near, _ := impl.NearOf(p, a)
			for b, way := range row {
				if way != ways[b][a] || (way == 0) != (a == b) {
					t.Fatalf("NearWay of %q, %d, %d: %d, and exchanged %d", p, a, b, way, ways[b][a])
				}
				for _, c := range near {
					if way > ways[c][b]+1 {
						t.Fatalf("NearWay of %q, %d, %d: %d, and from %d: %d", p, a, b, way, c, ways[c][b])
					}
				}
			}
		}
	}
}

func TestPromise36NearFar(t *testing.T) {
	for _, p := range nearPlans() {
		far, ok := impl.NearFar(p)
		mustNumber(t, "NearFar", p)(far, ok, farOf(p))
		mustKeepNumber(t, "NearFar", impl.NearFar, p, far)
		if rooms, _ := impl.PlanRooms(p); far >= rooms || (far == 0) != (rooms == 1) {
			t.Fatalf("NearFar of %q: %d, of %d rooms", p, far, rooms)
		}
	}
	for _, p := range noPlans() {
		far, ok := impl.NearFar(p)
		mustFailWithNumber(t, "NearFar", p)(far, ok)
	}
}

func TestPromise37NearOut(t *testing.T) {
	for _, p := range nearPlans() {
		for side := range 4 {
			rooms, ok := impl.NearOut(p, side)
			mustRooms(t, "NearOut", p)(rooms, ok, sideOf(p, side))
			mustBeInLine(t, p, rooms)
			if (side == 0 || side == 3) && rooms[0] != 0 {
				t.Fatalf("NearOut of %q, %d: %v, without the first letter", p, side, rooms)
			}
		}
	}
	for _, p := range append(fillPlans(2, 2), []string{"aab", "cdb", "cee"}, nine) {
		for _, side := range append([]int{4, 5}, farNumbers...) {
			rooms, ok := impl.NearOut(p, side)
			mustFailWithRooms(t, "NearOut", p)(rooms, ok)
		}
	}
	for _, p := range noPlans() {
		for side := -1; side <= 4; side++ {
			rooms, ok := impl.NearOut(p, side)
			mustFailWithRooms(t, "NearOut", p)(rooms, ok)
		}
	}
}

func TestPromise38NearColours(t *testing.T) {
	for _, p := range nearPlans() {
		many, ok := impl.NearColours(p)
		mustNumber(t, "NearColours", p)(many, ok, slices.Max(coloursOf(p))+1)
		mustKeepNumber(t, "NearColours", impl.NearColours, p, many)
		if rooms, _ := impl.PlanRooms(p); many > 4 || (many == 1) != (rooms == 1) {
			t.Fatalf("NearColours of %q: %d, of %d rooms", p, many, rooms)
		}
	}
	for _, p := range noPlans() {
		many, ok := impl.NearColours(p)
		mustFailWithNumber(t, "NearColours", p)(many, ok)
	}
}

func TestPromise39NearFirst(t *testing.T) {
	for _, p := range nearPlans() {
		colours, ok := impl.NearFirst(p)
		mustRooms(t, "NearFirst", p)(colours, ok, coloursOf(p))
		many, _ := impl.NearColours(p)
		if rooms, _ := impl.PlanRooms(p); len(colours) != rooms || colours[0] != 0 {
			t.Fatalf("NearFirst of %q: %v, of %d rooms", p, colours, rooms)
		}
		for a, colour := range colours {
			if colour < 0 || colour >= many {
				t.Fatalf("NearFirst of %q: %v, of %d colours", p, colours, many)
			}
			near, _ := impl.NearOf(p, a)
			for _, b := range near {
				if colours[b] == colour {
					t.Fatalf("NearFirst of %q: %v, the same for %d and %d", p, colours, a, b)
				}
			}
		}
	}
	for _, p := range noPlans() {
		colours, ok := impl.NearFirst(p)
		mustFailWithRooms(t, "NearFirst", p)(colours, ok)
	}
}

// TestNearSharesNothing checks that arguments stay as they are, also behind their ends, and that results are new.
func TestNearSharesNothing(t *testing.T) {
	whole := []string{"aab", "cdb", "cee", "x", "y"}
	p := slices.Clone(whole)
	for name, tell := range map[string]func() ([]int, bool){
		"NearOf":    func() ([]int, bool) { return impl.NearOf(p[:3], 3) },
		"NearOut":   func() ([]int, bool) { return impl.NearOut(p[:3], 2) },
		"NearFirst": func() ([]int, bool) { return impl.NearFirst(p[:3]) },
	} {
		first, _ := tell()
		kept := slices.Clone(first)
		second, _ := tell()
		for i := range second[:cap(second)] {
			second[:cap(second)][i] = 99
		}
		if !slices.Equal(first, kept) {
			t.Errorf("%s shares memory with an earlier result: %v", name, first)
		}
		if third, ok := tell(); !ok || !slices.Equal(third, kept) {
			t.Errorf("%s: %v, %v, not %v", name, third, ok, kept)
		}
	}
	impl.NearIs(p[:3], 0, 1)
	impl.NearLength(p[:3], 0, 1)
	impl.NearMany(p[:3])
	impl.NearWay(p[:3], 0, 4)
	impl.NearFar(p[:3])
	impl.NearColours(p[:3])
	if !slices.Equal(p, whole) {
		t.Errorf("the argument is now %q", p)
	}
}
