package tests

import (
	"slices"
	"strings"
	"testing"

	"loop.example/floorrooms/impl"
)

// cutCase is a plan with all that chapter 3 tells of it, worked out by hand.
// One without cuts has no first one; one without a text is not cuttable.
type cutCase struct {
	plan       []string
	first      int
	many       int
	text       string
	deep, ways int
	stuck      []int
}

var cutCases = []cutCase{
	// One room: there is no cut, and nothing to be cut.
	{plan: []string{"a"}, text: "A", ways: 1},
	{plan: []string{"aaaaaa"}, text: "A", ways: 1},
	{plan: []string{"a", "a", "a"}, text: "A", ways: 1},
	{plan: []string{"aaaaaa", "aaaaaa", "aaaaaa", "aaaaaa", "aaaaaa", "aaaaaa"}, text: "A", ways: 1},
	// One row or one column: the least depth is not that along the first cuts.
	{plan: []string{"ab"}, many: 1, text: "vAB", deep: 1, ways: 1},
	{plan: []string{"a", "b"}, many: 1, text: "hAB", deep: 1, ways: 1},
	{plan: []string{"abc"}, many: 2, text: "vAvBC", deep: 2, ways: 2},
	{plan: []string{"a", "a", "b", "c", "d"}, many: 3, text: "hAhBhCD", deep: 2, ways: 5},
	{plan: []string{"aabbcd"}, many: 3, text: "vAvBvCD", deep: 2, ways: 5},
	{plan: []string{"abcdef"}, many: 5, text: "vAvBvCvDvEF", deep: 3, ways: 42},
	{plan: []string{"a", "b", "c", "d", "e", "f"}, many: 5, text: "hAhBhChDhEF", deep: 3, ways: 42},
	// Parts that are cut the other way, ahead of a cut and behind it.
	{plan: []string{"ab", "cb"}, many: 1, text: "vhACB", deep: 2, ways: 1},
	{plan: []string{"ab", "ac"}, many: 1, text: "vAhBC", deep: 2, ways: 1},
	{plan: []string{"aa", "bc"}, many: 1, first: 1, text: "hAvBC", deep: 2, ways: 1},
	{plan: []string{"ab", "cc"}, many: 1, first: 1, text: "hvABC", deep: 2, ways: 1},
	// The first cut has other walls ahead of it.
	{plan: []string{"abb", "ccc", "dee"}, many: 2, first: 2, text: "hvABhCvDE", deep: 3, ways: 2},
	{plan: []string{"abc", "ddd", "efg"}, many: 2, first: 4, text: "hvAvBChDvEvFG", deep: 4, ways: 8},
	{plan: []string{"aab", "ccb", "dee"}, many: 1, first: 3, text: "hvhACBvDE", deep: 3, ways: 1},
	// Crosses: several cuts, upright ones first.
	{plan: []string{"ab", "cd"}, many: 2, text: "vhAChBD", deep: 2, ways: 2},
	{plan: []string{"abc", "def"}, many: 3, text: "vhADvhBEhCF", deep: 3, ways: 8},
	{plan: []string{"aab", "ccd", "eef"}, many: 3, text: "vhAhCEhBhDF", deep: 3, ways: 8},
	{plan: nine, many: 4, text: "vhAhDGvhBhEHhChFI", deep: 4, ways: 64},
	// A wall that is a cut of a part alone.
	{plan: []string{"abb", "acd", "ecd"}, many: 1, text: "vhAEhBvCD", deep: 3, ways: 1},
	// Windmills: no cut at all.
	{plan: []string{"aab", "cdb", "cee"}, stuck: []int{0, 1, 2, 3, 4}},
	{plan: []string{"abb", "acd", "eed"}, stuck: []int{0, 1, 2, 3, 4}},
	// A cross in the middle of a windmill, a windmill in the middle of one, and rooms of one cut into more.
	{plan: []string{"aaab", "cdeb", "cfgb", "chhh"}, stuck: []int{0, 1, 2, 3, 4, 5, 6, 7}},
	{plan: []string{"aaaab", "cddeb", "cfgeb", "cfhhb", "ciiii"}, stuck: []int{0, 1, 2, 3, 4, 5, 6, 7, 8}},
	{plan: []string{"abbcdd", "abbcdd", "eeffdd", "gghhdd", "ggiiii", "ggiiii"}, stuck: []int{0, 1, 2, 3, 4, 5, 6, 7, 8}},
	// Parts that are stuck: ahead of a cut, behind it, and behind two.
	{plan: []string{"aabc", "debc", "dffc"}, many: 1, first: 2, stuck: []int{0, 1, 3, 4, 5}},
	{plan: []string{"aab", "cdb", "cee", "fff"}, many: 1, first: 4, stuck: []int{0, 1, 2, 3, 4}},
	{plan: []string{"abbc", "adec", "adff"}, many: 1, stuck: []int{1, 2, 3, 4, 5}},
	{plan: []string{"aaaa", "bccd", "befd", "begg"}, many: 1, first: 3, stuck: []int{2, 3, 4, 5, 6}},
	{plan: []string{"aabcd", "efbcd", "eggch", "eggch"}, many: 2, first: 2, stuck: []int{0, 1, 4, 5, 6}},
}

func TestCutsByHand(t *testing.T) {
	for _, c := range cutCases {
		first, ok := impl.CutFirst(c.plan)
		if first != c.first || ok != (c.many > 0) {
			t.Errorf("CutFirst of %q: %d, %v", c.plan, first, ok)
		}
		many, ok := impl.CutMany(c.plan)
		mustNumber(t, "CutMany", c.plan)(many, ok, c.many)
		cuttable := c.text != ""
		if impl.CutIs(c.plan) != cuttable {
			t.Errorf("CutIs of %q is not %v", c.plan, cuttable)
		}
		if text, ok := impl.CutText(c.plan); text != c.text || ok != cuttable {
			t.Errorf("CutText of %q: %q, %v", c.plan, text, ok)
		}
		if deep, ok := impl.CutDeep(c.plan); deep != c.deep || ok != cuttable {
			t.Errorf("CutDeep of %q: %d, %v", c.plan, deep, ok)
		}
		if ways, ok := impl.CutWays(c.plan); ways != c.ways || ok != cuttable {
			t.Errorf("CutWays of %q: %d, %v", c.plan, ways, ok)
		}
		if stuck, ok := impl.CutStuck(c.plan); !slices.Equal(stuck, c.stuck) || ok == cuttable {
			t.Errorf("CutStuck of %q: %v, %v", c.plan, stuck, ok)
		}
	}
}

func TestHelperCuts(t *testing.T) {
	for _, c := range cutCases {
		if !isPlan(c.plan) {
			t.Errorf("%q is no plan", c.plan)
		}
		if cuts := cutLines(c.plan); len(cuts) != c.many || c.many > 0 && cuts[0] != c.first {
			t.Errorf("%q has the cuts %v", c.plan, cuts)
		}
		falls := fallsOf(c.plan, allOf(c.plan))
		if len(falls) != c.ways || c.ways > 0 && falls[0].text != c.text {
			t.Errorf("%q is cut in the ways %v", c.plan, falls)
		}
		if stuck := stuckIn(c.plan, allOf(c.plan)); !slices.Equal(stuck, c.stuck) {
			t.Errorf("%q is stuck at %v", c.plan, stuck)
		}
	}
	cuttable, whole, part, full := 0, 0, 0, 0
	for _, p := range cutPlans() {
		stuck := stuckIn(p, allOf(p))
		switch len(stuck) {
		case 0:
			cuttable++
		case len(rectsOf(p)):
			whole++
		default:
			part++
		}
		if len(p) == impl.SideMax && len(p[0]) == impl.SideMax && len(rectsOf(p)) == impl.RoomMax && len(stuck) > 0 {
			full++
		}
	}
	if cuttable < 5000 || whole < 1000 || part < 1000 || full < 500 {
		t.Errorf("%d cuttable plans, %d stuck ones, %d with a part that is, %d of all rows, columns and rooms stuck", cuttable, whole, part, full)
	}
}

func TestPromise20CutFirst(t *testing.T) {
	later := 0
	for _, p := range cutPlans() {
		first, ok := impl.CutFirst(p)
		cuts := cutLines(p)
		if len(cuts) == 0 {
			mustFailWithNumber(t, "CutFirst", p)(first, ok)
			continue
		}
		mustNumber(t, "CutFirst", p)(first, ok, cuts[0])
		list, _ := impl.WallList(p)
		long := []int{len(p), len(p[0])}
		for i, w := range list[:first+1] {
			if (w[3] == long[w[0]]) != (i == first) {
				t.Fatalf("CutFirst of %q: %d, but wall %d is %v", p, first, i, w)
			}
		}
		if many, ok := impl.CutMany(p); !ok || many < 1 {
			t.Fatalf("CutFirst of %q: %d, but CutMany: %d, %v", p, first, many, ok)
		}
		if first > 0 {
			later++
		}
	}
	if later < 100 {
		t.Errorf("only %d first cuts behind other walls", later)
	}
	for _, p := range noPlans() {
		first, ok := impl.CutFirst(p)
		mustFailWithNumber(t, "CutFirst", p)(first, ok)
	}
}

func TestPromise21CutMany(t *testing.T) {
	for _, p := range cutPlans() {
		many, ok := impl.CutMany(p)
		mustNumber(t, "CutMany", p)(many, ok, len(cutLines(p)))
		mustKeepNumber(t, "CutMany", impl.CutMany, p, many)
		if _, ok := impl.CutFirst(p); ok != (many > 0) {
			t.Fatalf("CutMany of %q: %d, but CutFirst: %v", p, many, ok)
		}
		if standing, lying, _ := impl.WallMany(p); many > standing+lying {
			t.Fatalf("CutMany of %q: %d of %d, %d walls", p, many, standing, lying)
		}
	}
	for _, p := range noPlans() {
		many, ok := impl.CutMany(p)
		mustFailWithNumber(t, "CutMany", p)(many, ok)
	}
}

func TestPromise22CutIs(t *testing.T) {
	twice := 0
	for _, p := range cutPlans() {
		is := impl.CutIs(p)
		if want := len(fallsOf(p, allOf(p))) > 0; is != want {
			t.Fatalf("CutIs of %q is not %v", p, want)
		}
		for what, change := range map[string]func([]string) ([]string, bool){
			"PlanTurn": impl.PlanTurn, "PlanFlip": impl.PlanFlip, "PlanTight": impl.PlanTight, "PlanTrans": impl.PlanTrans,
		} {
			if q, ok := change(p); !ok || impl.CutIs(q) != is {
				t.Fatalf("CutIs of %q is %v, but not that of its %s %q", p, is, what, q)
			}
		}
		if q, ok := impl.PlanBeside(p, p); ok {
			if impl.CutIs(q) != is {
				t.Fatalf("CutIs of %q is %v, but not that of %q", p, is, q)
			}
			twice++
		}
	}
	if twice < 50 {
		t.Errorf("only %d plans beside themselves", twice)
	}
	for _, p := range noPlans() {
		if impl.CutIs(p) {
			t.Errorf("CutIs holds for %q", p)
		}
	}
}

func TestPromise23CutText(t *testing.T) {
	for _, p := range cutPlans() {
		text, ok := impl.CutText(p)
		falls := fallsOf(p, allOf(p))
		if len(falls) == 0 {
			if ok || text != "" {
				t.Fatalf("CutText of %q: %q, %v", p, text, ok)
			}
			continue
		}
		if !ok || text != falls[0].text {
			t.Fatalf("CutText of %q: %q, %v, not %q", p, text, ok, falls[0].text)
		}
		rooms, _ := impl.PlanRooms(p)
		if cuts := strings.Count(text, "v") + strings.Count(text, "h"); len(text) != 2*rooms-1 || cuts != rooms-1 {
			t.Fatalf("CutText of %q: %q, for %d rooms", p, text, rooms)
		}
		for room := range rooms {
			if strings.Count(text, string(rune('A'+room))) != 1 {
				t.Fatalf("CutText of %q: %q, without room %d or with it twice", p, text, room)
			}
		}
	}
	for _, p := range noPlans() {
		if text, ok := impl.CutText(p); ok || text != "" {
			t.Errorf("CutText of %q: %q, %v", p, text, ok)
		}
	}
}

func TestPromise24CutDeep(t *testing.T) {
	less := 0
	for _, p := range cutPlans() {
		deep, ok := impl.CutDeep(p)
		falls := fallsOf(p, allOf(p))
		if len(falls) == 0 {
			mustFailWithNumber(t, "CutDeep", p)(deep, ok)
			continue
		}
		least := falls[0].deep
		for _, f := range falls {
			least = min(least, f.deep)
		}
		mustNumber(t, "CutDeep", p)(deep, ok, least)
		mustKeepNumber(t, "CutDeep", impl.CutDeep, p, deep)
		if rooms, _ := impl.PlanRooms(p); deep >= rooms || 1<<deep < rooms {
			t.Fatalf("CutDeep of %q: %d, for %d rooms", p, deep, rooms)
		}
		if deep < falls[0].deep {
			less++
		}
	}
	if less < 50 {
		t.Errorf("only %d plans are less deep than along their first cuts", less)
	}
	for _, p := range noPlans() {
		deep, ok := impl.CutDeep(p)
		mustFailWithNumber(t, "CutDeep", p)(deep, ok)
	}
}

func TestPromise25CutWays(t *testing.T) {
	several := 0
	for _, p := range cutPlans() {
		ways, ok := impl.CutWays(p)
		different := map[string]bool{}
		for _, f := range fallsOf(p, allOf(p)) {
			different[f.lines] = true
		}
		if len(different) == 0 {
			mustFailWithNumber(t, "CutWays", p)(ways, ok)
			continue
		}
		mustNumber(t, "CutWays", p)(ways, ok, len(different))
		mustKeepNumber(t, "CutWays", impl.CutWays, p, ways)
		many, _ := impl.CutMany(p)
		if ways < 1 || ways < many {
			t.Fatalf("CutWays of %q: %d, with %d cuts", p, ways, many)
		}
		if ways > many && many > 1 {
			several++
		}
	}
	if several < 100 {
		t.Errorf("only %d plans have more ways than cuts", several)
	}
	for _, p := range noPlans() {
		ways, ok := impl.CutWays(p)
		mustFailWithNumber(t, "CutWays", p)(ways, ok)
	}
}

func TestPromise26CutStuck(t *testing.T) {
	for _, p := range cutPlans() {
		stuck, ok := impl.CutStuck(p)
		want := stuckIn(p, allOf(p))
		if ok != (len(want) > 0) || !slices.Equal(stuck, want) {
			t.Fatalf("CutStuck of %q: %v, %v, not %v", p, stuck, ok, want)
		}
		if ok {
			mustBeStuck(t, p, stuck)
		}
	}
	for _, p := range noPlans() {
		if stuck, ok := impl.CutStuck(p); ok || len(stuck) != 0 {
			t.Errorf("CutStuck of %q: %v, %v", p, stuck, ok)
		}
	}
}

// mustBeStuck checks that rooms of a plan are a part that no line can cut.
func mustBeStuck(t *testing.T, p []string, stuck []int) {
	t.Helper()
	if impl.CutIs(p) || len(stuck) < 5 || !slices.Equal(sorted(stuck), stuck) {
		t.Fatalf("CutStuck of %q: %v, and CutIs: %v", p, stuck, impl.CutIs(p))
	}
	rects := rectsOf(p)
	around, cells := rects[stuck[0]], 0
	for _, room := range stuck {
		r := rects[room]
		cells += r.high * r.wide
		bottom, right := max(around.row+around.high, r.row+r.high), max(around.column+around.wide, r.column+r.wide)
		around.row, around.column = min(around.row, r.row), min(around.column, r.column)
		around.high, around.wide = bottom-around.row, right-around.column
	}
	if letters, _ := halvesOf(p, around); cells != around.high*around.wide || len(letters) > 0 {
		t.Fatalf("CutStuck of %q: %v, %d cells of %v, with the cuts %q", p, stuck, cells, around, letters)
	}
}

func TestPromise27CutStuckOrIs(t *testing.T) {
	for _, p := range cutPlans() {
		_, ok := impl.CutStuck(p)
		if _, is := impl.PlanRooms(p); !is || ok == impl.CutIs(p) {
			t.Fatalf("CutStuck of %q: %v, and CutIs: %v, PlanRooms: %v", p, ok, impl.CutIs(p), is)
		}
	}
	for _, p := range noPlans() {
		if _, ok := impl.CutStuck(p); ok || impl.CutIs(p) {
			t.Errorf("CutStuck or CutIs of %q, which is no plan", p)
		}
	}
}

// TestCutsShareNothing checks that arguments stay as they are, also behind their ends, and that results are new.
func TestCutsShareNothing(t *testing.T) {
	whole := []string{"aabc", "debc", "dffc", "x", "y"}
	p := slices.Clone(whole)
	first, _ := impl.CutStuck(p[:3])
	kept := slices.Clone(first)
	second, _ := impl.CutStuck(p[:3])
	for i := range second[:cap(second)] {
		second[:cap(second)][i] = 99
	}
	if !slices.Equal(first, kept) {
		t.Errorf("CutStuck shares memory with an earlier result: %v", first)
	}
	impl.CutFirst(p[:3])
	impl.CutMany(p[:3])
	impl.CutText(p[:3])
	impl.CutDeep(p[:3])
	impl.CutWays(p[:3])
	if !slices.Equal(p, whole) {
		t.Errorf("the argument is now %q", p)
	}
	if third, ok := impl.CutStuck(p[:3]); !ok || !slices.Equal(third, kept) {
		t.Errorf("CutStuck: %v, %v, not %v", third, ok, kept)
	}
}
