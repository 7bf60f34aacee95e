package tests

import (
	"slices"
	"testing"

	"loop.example/floorrooms/impl"
)

// wallCase is a plan with all that chapter 2 tells of it, worked out by hand.
type wallCase struct {
	plan                 []string
	walls                []line
	crosses, tees, ends  int
	longest, longestSize int
}

var wallCases = []wallCase{
	// No walls: one cell, one row, one column, and as many cells as there may be.
	{plan: []string{"a"}},
	{plan: []string{"aaaaaa"}},
	{plan: []string{"a", "a", "a", "a", "a", "a"}},
	{plan: []string{"aaaaaa", "aaaaaa", "aaaaaa", "aaaaaa", "aaaaaa", "aaaaaa"}},
	// One row or one column: walls of one cell, which end at the outline twice.
	{plan: []string{"ab"}, walls: []line{{0, 1, 0, 1}}, ends: 2, longestSize: 1},
	{plan: []string{"a", "b"}, walls: []line{{1, 1, 0, 1}}, ends: 2, longestSize: 1},
	{plan: []string{"aabcc"}, walls: []line{{0, 2, 0, 1}, {0, 3, 0, 1}}, ends: 4, longestSize: 1},
	{plan: []string{"a", "b", "b", "c"}, walls: []line{{1, 1, 0, 1}, {1, 3, 0, 1}}, ends: 4, longestSize: 1},
	{plan: []string{"abcdef"}, walls: []line{{0, 1, 0, 1}, {0, 2, 0, 1}, {0, 3, 0, 1}, {0, 4, 0, 1}, {0, 5, 0, 1}}, ends: 10, longestSize: 1},
	// A wall from side to side.
	{plan: []string{"aab", "aab"}, walls: []line{{0, 2, 0, 2}}, ends: 2, longestSize: 2},
	{plan: []string{"aaa", "bbb"}, walls: []line{{1, 1, 0, 3}}, ends: 2, longestSize: 3},
	// A wall that ends at another one.
	{plan: []string{"ab", "cb"}, walls: []line{{0, 1, 0, 2}, {1, 1, 0, 1}}, tees: 1, ends: 3, longestSize: 2},
	{plan: []string{"ab", "cc"}, walls: []line{{0, 1, 0, 1}, {1, 1, 0, 2}}, tees: 1, ends: 3, longest: 1, longestSize: 2},
	{plan: []string{"abb", "acc"}, walls: []line{{0, 1, 0, 2}, {1, 1, 1, 2}}, tees: 1, ends: 3, longestSize: 2},
	// A cross, and walls that go through several ones.
	{plan: []string{"ab", "cd"}, walls: []line{{0, 1, 0, 2}, {1, 1, 0, 2}}, crosses: 1, ends: 4, longestSize: 2},
	{plan: []string{"abc", "def"}, walls: []line{{0, 1, 0, 2}, {0, 2, 0, 2}, {1, 1, 0, 3}}, crosses: 2, ends: 6, longest: 2, longestSize: 3},
	{plan: nine, walls: []line{{0, 2, 0, 6}, {0, 4, 0, 6}, {1, 2, 0, 6}, {1, 4, 0, 6}}, crosses: 4, ends: 8, longestSize: 6},
	// A cross and a wall that ends at another one.
	{
		plan:    []string{"abb", "cdd", "cee"},
		walls:   []line{{0, 1, 0, 3}, {1, 1, 0, 3}, {1, 2, 1, 2}},
		crosses: 1, tees: 1, ends: 5, longestSize: 3,
	},
	// Two walls on one line, with a room between them.
	{
		plan:  []string{"abb", "ccc", "dee"},
		walls: []line{{0, 1, 0, 1}, {0, 1, 2, 1}, {1, 1, 0, 3}, {1, 2, 0, 3}},
		tees:  2, ends: 6, longest: 2, longestSize: 3,
	},
	{
		plan:  []string{"abc", "dbe", "dbe"},
		walls: []line{{0, 1, 0, 3}, {0, 2, 0, 3}, {1, 1, 0, 1}, {1, 1, 2, 1}},
		tees:  2, ends: 6, longestSize: 3,
	},
	// Two walls that end at the same one from both sides, at different points.
	{
		plan:  []string{"aab", "cdd"},
		walls: []line{{0, 1, 1, 1}, {0, 2, 0, 1}, {1, 1, 0, 3}},
		tees:  2, ends: 4, longest: 2, longestSize: 3,
	},
	// Windmills: no wall from side to side, and the first of several walls that are as long.
	{
		plan:  []string{"aab", "cdb", "cee"},
		walls: []line{{0, 1, 1, 2}, {0, 2, 0, 2}, {1, 1, 0, 2}, {1, 2, 1, 2}},
		tees:  4, ends: 4, longestSize: 2,
	},
	{
		plan:  []string{"abb", "acd", "eed"},
		walls: []line{{0, 1, 0, 2}, {0, 2, 1, 2}, {1, 1, 1, 2}, {1, 2, 0, 2}},
		tees:  4, ends: 4, longestSize: 2,
	},
	{
		plan:  []string{"aaab", "cddb", "ceee"},
		walls: []line{{0, 1, 1, 2}, {0, 3, 0, 2}, {1, 1, 0, 3}, {1, 2, 1, 3}},
		tees:  4, ends: 4, longest: 2, longestSize: 3,
	},
}

func TestWallsByHand(t *testing.T) {
	for _, c := range wallCases {
		mustLines(t, c.plan, c.walls)
		n, ok := impl.WallCross(c.plan)
		mustNumber(t, "WallCross", c.plan)(n, ok, c.crosses)
		n, ok = impl.WallTees(c.plan)
		mustNumber(t, "WallTees", c.plan)(n, ok, c.tees)
		n, ok = impl.WallEnds(c.plan)
		mustNumber(t, "WallEnds", c.plan)(n, ok, c.ends)
		if impl.WallPlain(c.plan) != (c.crosses == 0) {
			t.Errorf("WallPlain of %q is not %v", c.plan, c.crosses == 0)
		}
		wall, size, ok := impl.WallLongest(c.plan)
		if wall != c.longest || size != c.longestSize || ok != (len(c.walls) > 0) {
			t.Errorf("WallLongest of %q: %d, %d, %v, not %d, %d", c.plan, wall, size, ok, c.longest, c.longestSize)
		}
	}
}

func TestHelperWalls(t *testing.T) {
	for _, c := range wallCases {
		if !isPlan(c.plan) || !slices.Equal(linesOf(c.plan), c.walls) {
			t.Errorf("%q has the walls %v", c.plan, linesOf(c.plan))
		}
		if cornersOf(c.plan, 4) != c.crosses || cornersOf(c.plan, 3) != c.tees || outerEnds(c.plan) != c.ends {
			t.Errorf("%q has %d crosses, %d tees, %d ends", c.plan, cornersOf(c.plan, 4), cornersOf(c.plan, 3), outerEnds(c.plan))
		}
	}
	plain, crossed, full := 0, 0, 0
	for _, p := range somePlans() {
		if cornersOf(p, 4) == 0 {
			plain++
		} else {
			crossed++
		}
		if len(p) == impl.SideMax && len(p[0]) == impl.SideMax && len(rectsOf(p)) == impl.RoomMax {
			full++
		}
	}
	if plain < 500 || crossed < 500 || full < 10 {
		t.Errorf("%d plain plans, %d with crosses, %d with all rows, columns and rooms", plain, crossed, full)
	}
}

func TestPromise14WallMany(t *testing.T) {
	for _, p := range somePlans() {
		standing, lying, ok := impl.WallMany(p)
		walls := linesOf(p)
		want := slices.IndexFunc(append(walls, line{1}), func(w line) bool { return w[0] == 1 })
		if !ok || standing != want || lying != len(walls)-want {
			t.Fatalf("WallMany of %q: %d, %d, %v, not %d, %d", p, standing, lying, ok, want, len(walls)-want)
		}
		crosses, _ := impl.WallCross(p)
		if rooms, _ := impl.PlanRooms(p); standing+lying+crosses+1 != rooms {
			t.Fatalf("%q has %d, %d walls, %d crosses and %d rooms", p, standing, lying, crosses, rooms)
		}
		q, _ := impl.PlanTrans(p)
		if a, b, ok := impl.WallMany(q); !ok || a != lying || b != standing {
			t.Fatalf("WallMany of %q: %d, %d, %v, and of %q: %d, %d", q, a, b, ok, p, standing, lying)
		}
	}
	for _, p := range noPlans() {
		if a, b, ok := impl.WallMany(p); ok || a != 0 || b != 0 {
			t.Errorf("WallMany of %q: %d, %d, %v", p, a, b, ok)
		}
	}
}

func TestPromise15WallList(t *testing.T) {
	for _, p := range somePlans() {
		mustLines(t, p, linesOf(p))
		list, _ := impl.WallList(p)
		standing, lying, _ := impl.WallMany(p)
		if len(list) != standing+lying {
			t.Fatalf("WallList of %q: %v, not %d and %d", p, list, standing, lying)
		}
		for i, w := range list {
			across, along, way := len(p[0]), len(p), 0
			if i >= standing {
				across, along, way = along, across, 1
			}
			if w[0] != way || w[1] < 1 || w[1] >= across || w[2] < 0 || w[3] < 1 || w[2]+w[3] > along {
				t.Fatalf("WallList of %q: wall %d is %v", p, i, w)
			}
		}
	}
	for _, p := range noPlans() {
		if list, ok := impl.WallList(p); ok || len(list) != 0 {
			t.Errorf("WallList of %q: %v, %v", p, list, ok)
		}
	}
}

func TestPromise16WallCross(t *testing.T) {
	for _, p := range somePlans() {
		got, ok := impl.WallCross(p)
		mustNumber(t, "WallCross", p)(got, ok, cornersOf(p, 4))
		if impl.WallPlain(p) != (got == 0) {
			t.Fatalf("%q has %d crosses, and WallPlain is %v", p, got, impl.WallPlain(p))
		}
		q, _ := impl.PlanTurn(p)
		turned, ok := impl.WallCross(q)
		mustNumber(t, "WallCross", q)(turned, ok, got)
		q, _ = impl.PlanFlip(p)
		flipped, ok := impl.WallCross(q)
		mustNumber(t, "WallCross", q)(flipped, ok, got)
	}
	for _, p := range noPlans() {
		if n, ok := impl.WallCross(p); ok || n != 0 {
			t.Errorf("WallCross of %q: %d, %v", p, n, ok)
		}
	}
}

func TestPromise17WallPlain(t *testing.T) {
	for _, p := range somePlans() {
		if impl.WallPlain(p) != (cornersOf(p, 4) == 0) {
			t.Fatalf("WallPlain of %q: %v", p, impl.WallPlain(p))
		}
		turned, _ := impl.PlanTurn(p)
		tight, _ := impl.PlanTight(p)
		if impl.WallPlain(turned) != impl.WallPlain(p) || impl.WallPlain(tight) != impl.WallPlain(p) {
			t.Fatalf("WallPlain of %q: %v, of %q: %v, of %q: %v",
				p, impl.WallPlain(p), turned, impl.WallPlain(turned), tight, impl.WallPlain(tight))
		}
		standing, lying, _ := impl.WallMany(p)
		if rooms, _ := impl.PlanRooms(p); impl.WallPlain(p) && standing+lying != rooms-1 {
			t.Fatalf("%q is plain and has %d, %d walls and %d rooms", p, standing, lying, rooms)
		}
	}
	for _, p := range noPlans() {
		if impl.WallPlain(p) {
			t.Errorf("WallPlain holds for %q", p)
		}
	}
}

func TestPromise18WallTees(t *testing.T) {
	for _, p := range somePlans() {
		tees, ok := impl.WallTees(p)
		mustNumber(t, "WallTees", p)(tees, ok, cornersOf(p, 3))
		ends, ok := impl.WallEnds(p)
		mustNumber(t, "WallEnds", p)(ends, ok, outerEnds(p))
		if standing, lying, _ := impl.WallMany(p); tees+ends != 2*(standing+lying) {
			t.Fatalf("%q has %d tees, %d ends and %d, %d walls", p, tees, ends, standing, lying)
		}
	}
	for _, p := range noPlans() {
		if n, ok := impl.WallTees(p); ok || n != 0 {
			t.Errorf("WallTees of %q: %d, %v", p, n, ok)
		}
		if n, ok := impl.WallEnds(p); ok || n != 0 {
			t.Errorf("WallEnds of %q: %d, %v", p, n, ok)
		}
	}
}

func TestPromise19WallLongest(t *testing.T) {
	later, several := 0, 0
	for _, p := range somePlans() {
		wall, size, ok := impl.WallLongest(p)
		list, _ := impl.WallList(p)
		if len(list) == 0 {
			if ok || wall != 0 || size != 0 {
				t.Fatalf("WallLongest of %q: %d, %d, %v", p, wall, size, ok)
			}
			continue
		}
		if !ok || wall < 0 || wall >= len(list) || size != list[wall][3] {
			t.Fatalf("WallLongest of %q: %d, %d, %v of %v", p, wall, size, ok, list)
		}
		for i, w := range list {
			if w[3] > size || i < wall && w[3] == size {
				t.Fatalf("WallLongest of %q: %d, %d, but wall %d of %v", p, wall, size, i, list)
			}
			if i > wall && w[3] == size {
				several++
			}
		}
		if wall > 0 {
			later++
		}
	}
	if later < 100 || several < 100 {
		t.Errorf("only %d longest walls behind others and %d others as long", later, several)
	}
	for _, p := range noPlans() {
		if wall, size, ok := impl.WallLongest(p); ok || wall != 0 || size != 0 {
			t.Errorf("WallLongest of %q: %d, %d, %v", p, wall, size, ok)
		}
	}
}

func TestWallSides(t *testing.T) {
	for _, p := range somePlans() {
		walls := linesOf(p)
		for i, w := range walls {
			before, behind, ok := impl.WallSides(p, i)
			wantBefore, wantBehind := besideLine(p, w)
			if !ok || !slices.Equal(before, wantBefore) || !slices.Equal(behind, wantBehind) {
				t.Fatalf("WallSides of %q, %d: %v, %v, %v, not %v, %v", p, i, before, behind, ok, wantBefore, wantBehind)
			}
		}
		for _, far := range append([]int{len(walls), len(walls) + 1}, farNumbers...) {
			mustHaveNoSides(t, p, far)
		}
	}
	for _, p := range noPlans() {
		for wall := range 5 {
			mustHaveNoSides(t, p, wall)
		}
	}
	for _, c := range []struct {
		plan           []string
		wall           int
		before, behind []int
	}{
		{[]string{"ab"}, 0, []int{0}, []int{1}},
		{[]string{"a", "b"}, 0, []int{0}, []int{1}},
		{[]string{"aab", "cdb", "cee"}, 0, []int{2}, []int{3, 4}},
		{[]string{"aab", "cdb", "cee"}, 1, []int{0, 3}, []int{1}},
		{[]string{"aab", "cdb", "cee"}, 2, []int{0}, []int{2, 3}},
		{[]string{"aab", "cdb", "cee"}, 3, []int{3, 1}, []int{4}},
		{[]string{"ab", "cd"}, 0, []int{0, 2}, []int{1, 3}},
		{[]string{"ab", "cd"}, 1, []int{0, 1}, []int{2, 3}},
		{nine, 1, []int{1, 4, 7}, []int{2, 5, 8}},
		{nine, 3, []int{3, 4, 5}, []int{6, 7, 8}},
	} {
		before, behind, ok := impl.WallSides(c.plan, c.wall)
		if !ok || !slices.Equal(before, c.before) || !slices.Equal(behind, c.behind) {
			t.Errorf("WallSides of %q, %d: %v, %v, %v", c.plan, c.wall, before, behind, ok)
		}
	}
}

func mustHaveNoSides(t *testing.T, p []string, wall int) {
	t.Helper()
	if before, behind, ok := impl.WallSides(p, wall); ok || len(before) != 0 || len(behind) != 0 {
		t.Fatalf("WallSides of %q, %d: %v, %v, %v", p, wall, before, behind, ok)
	}
}

// TestWallsShareNothing checks that arguments stay as they are, also behind their ends, and that results are new.
func TestWallsShareNothing(t *testing.T) {
	whole := []string{"aab", "cdb", "cee", "x", "y"}
	p := slices.Clone(whole)
	list, _ := impl.WallList(p[:3])
	before, behind, _ := impl.WallSides(p[:3], 0)
	parts := append(slices.Clone(list), before, behind)
	for i, part := range parts {
		part = part[:cap(part)]
		for k := range part {
			part[k] = 90 + i
		}
	}
	for i, part := range parts {
		if slices.ContainsFunc(part, func(n int) bool { return n != 90+i }) {
			t.Errorf("part %d of the results shares memory with another one: %v", i, part)
		}
	}
	if !slices.Equal(p, whole) {
		t.Errorf("the argument is now %q", p)
	}
	mustLines(t, p[:3], linesOf(whole[:3]))
	if before, behind, _ = impl.WallSides(p[:3], 0); !slices.Equal(before, []int{2}) || !slices.Equal(behind, []int{3, 4}) {
		t.Errorf("WallSides: %v, %v", before, behind)
	}
}
