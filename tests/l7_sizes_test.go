package tests

import (
	"slices"
	"testing"

	"loop.example/floorrooms/impl"
)

// sizeCase is what is known by hand of a plain plan with needs; one that is not cuttable has 0 as its width along cuts.
type sizeCase struct {
	plan          []string
	needs         []int
	wide, high    int
	places, slack []int
	cut           int
}

var sizeCases = []sizeCase{
	// One room, however many cells it has.
	{[]string{"a"}, []int{1}, 1, 1, []int{0}, []int{0}, 1},
	{[]string{"a"}, []int{9}, 9, 9, []int{0}, []int{0}, 9},
	{[]string{"aaaaaa", "aaaaaa", "aaaaaa", "aaaaaa", "aaaaaa", "aaaaaa"}, []int{4}, 4, 4, []int{0}, []int{0}, 4},
	// Rooms in one row and in one column: needs are of rooms and not of cells.
	{[]string{"ab"}, []int{2, 3}, 5, 3, []int{0, 2}, []int{0, 0}, 5},
	{[]string{"abc"}, []int{2, 9, 1}, 12, 9, []int{0, 2, 11}, []int{0, 0, 0}, 12},
	{[]string{"aaaabc"}, []int{1, 1, 1}, 3, 1, []int{0, 1, 2}, []int{0, 0, 0}, 3},
	{[]string{"abcdef"}, []int{9, 9, 9, 9, 9, 9}, 54, 9, []int{0, 9, 18, 27, 36, 45}, []int{0, 0, 0, 0, 0, 0}, 54},
	{[]string{"a", "b", "c"}, []int{2, 9, 1}, 9, 12, []int{0, 0, 0}, []int{7, 0, 8}, 9},
	{[]string{"a", "b", "c", "d", "e", "f"}, []int{1, 2, 3, 4, 5, 6}, 6, 21, []int{0, 0, 0, 0, 0, 0}, []int{5, 4, 3, 2, 1, 0}, 6},
	// The part with the greater need decides, wherever its walls lie.
	{[]string{"ab", "cc"}, []int{2, 3, 4}, 5, 7, []int{0, 2, 0}, []int{0, 0, 1}, 5},
	{[]string{"ab", "cc"}, []int{2, 3, 9}, 9, 12, []int{0, 2, 0}, []int{4, 4, 0}, 9},
	{[]string{"ab", "cb"}, []int{5, 2, 7}, 9, 12, []int{0, 7, 0}, []int{2, 0, 0}, 9},
	// A wall has all its rooms on both sides: a is left of d, which begins behind c.
	{[]string{"ab", "cb", "cd"}, []int{1, 9, 4, 2}, 13, 11, []int{0, 4, 0, 4}, []int{3, 0, 0, 7}, 13},
	// A part behind a cut is cut by both ways.
	{[]string{"abb", "acd", "ecd"}, []int{1, 2, 3, 4, 5}, 12, 6, []int{0, 5, 5, 8, 0}, []int{4, 5, 0, 0, 0}, 12},
	// The wheels, which have no cut: c, d and b, then a, c and d, are each left of the next one.
	{[]string{"aab", "cdb", "cee"}, []int{1, 2, 3, 4, 5}, 9, 10, []int{0, 7, 0, 3, 3}, []int{6, 0, 0, 0, 1}, 0},
	{[]string{"aab", "cdb", "cee"}, []int{1, 1, 1, 1, 1}, 3, 3, []int{0, 2, 0, 1, 1}, []int{1, 0, 0, 0, 1}, 0},
	{[]string{"abb", "acd", "eed"}, []int{9, 1, 1, 9, 1}, 19, 10, []int{0, 9, 9, 10, 0}, []int{0, 9, 0, 0, 9}, 0},
	// As many rows, columns and rooms as there may be.
	{[]string{"aaaabc", "ddddbc", "efggbc", "efgghh", "efiiii", "efiiii"}, []int{9, 1, 2, 3, 4, 5, 6, 7, 8}, 22, 26,
		[]int{0, 15, 16, 0, 0, 4, 9, 15, 9}, []int{6, 4, 4, 12, 0, 0, 0, 0, 5}, 0},
}

func TestSizesByHand(t *testing.T) {
	for _, c := range sizeCases {
		p := c.plan
		n, ok := impl.SizeWide(p, c.needs)
		mustSize(t, "SizeWide", p, c.needs)(n, ok, c.wide)
		n, ok = impl.SizeHigh(p, c.needs)
		mustSize(t, "SizeHigh", p, c.needs)(n, ok, c.high)
		list, ok := impl.SizePlaces(p, c.needs)
		mustSizes(t, "SizePlaces", p, c.needs)(list, ok, c.places)
		list, ok = impl.SizeSlack(p, c.needs)
		mustSizes(t, "SizeSlack", p, c.needs)(list, ok, c.slack)
		if n, ok = impl.SizeCut(p, c.needs); n != c.cut || ok != (c.cut > 0) {
			t.Fatalf("SizeCut of %q with %v: %d, %v, not %d", p, c.needs, n, ok, c.cut)
		}
		n, ok = impl.SizeArea(p, c.needs, c.needs)
		mustSize(t, "SizeArea", p, c.needs)(n, ok, c.wide*c.high)
	}
	// A wheel with other heights than widths: a and b are above e, d is above e, and a is above c and d.
	p := []string{"aab", "cdb", "cee"}
	n, ok := impl.SizeArea(p, []int{1, 2, 3, 4, 5}, []int{5, 4, 3, 2, 1})
	mustSize(t, "SizeArea", p)(n, ok, 9*8)
}

func TestHelperSizes(t *testing.T) {
	for _, c := range sizeCases {
		left, above := ledOf(c.plan, 0), ledOf(c.plan, 1)
		wide, high := greatestSum(left, c.needs), greatestSum(above, c.needs)
		places, slack := pushed(left, c.needs, 0, 0), slackOf(left, c.needs)
		if wide != c.wide || high != c.high || !slices.Equal(places, c.places) || !slices.Equal(slack, c.slack) {
			t.Errorf("%q with %v is %d wide and %d high with places %v and slack %v", c.plan, c.needs, wide, high, places, slack)
		}
		widths := cutWidths(c.plan, c.needs)
		if c.cut == 0 && len(widths) != 0 || c.cut > 0 && !slices.Equal(widths, []int{c.cut}) {
			t.Errorf("%q with %v has the widths %v along cuts", c.plan, c.needs, widths)
		}
	}
	cuttable, stuck, loose, crooked := 0, 0, 0, 0
	drawingsOf(func(p []string, needs []int) {
		led := ledOf(p, 0)
		wide := greatestSum(led, needs)
		if end := endOf(pushed(led, needs, 0, 0), needs); end != wide {
			t.Fatalf("%q with %v is %d wide, and %d with all rooms pushed", p, needs, wide, end)
		}
		switch widths := cutWidths(p, needs); {
		case len(widths) == 0:
			stuck++
		case !slices.Equal(widths, []int{wide}):
			t.Fatalf("%q with %v is %d wide, and %v along cuts", p, needs, wide, widths)
		default:
			cuttable++
		}
		if slices.Max(slackOf(led, needs)) > 0 {
			loose++
		}
		if !slices.Equal(transNeeds(p, needs), needs) {
			crooked++
		}
	})
	if cuttable < 5000 || stuck < 5000 || loose < 5000 || crooked < 5000 {
		t.Errorf("%d are cuttable, %d are not, %d have slack, %d have other needs with rows and columns exchanged", cuttable, stuck, loose, crooked)
	}
}

func TestPromise66SizeWide(t *testing.T) {
	drawingsOf(func(p []string, needs []int) {
		wide, ok := impl.SizeWide(p, needs)
		mustSize(t, "SizeWide", p, needs)(wide, ok, greatestSum(ledOf(p, 0), needs))
		if wide < slices.Max(needs) || wide > sum(needs) {
			t.Fatalf("SizeWide of %q with %v: %d", p, needs, wide)
		}
	})
	for _, p := range orderPlans() {
		long, _, _ := impl.OrderLong(p)
		ones := needsFor(len(rectsOf(p)))[0]
		wide, ok := impl.SizeWide(p, ones)
		mustSize(t, "SizeWide", p, ones)(wide, ok, long)
	}
}

// TestPromises66To70NoSize checks lists that are no needs for a plan, and plans that are not plain or none.
func TestPromises66To70NoSize(t *testing.T) {
	for _, c := range sizeCases {
		for _, needs := range noNeeds(len(c.needs)) {
			mustHaveNoSize(t, c.plan, needs)
		}
	}
	for _, p := range append(fillPlans(2, 3), fillPlans(3, 2)...) {
		if isPlain(p) {
			for _, needs := range noNeeds(len(rectsOf(p))) {
				mustHaveNoSize(t, p, needs)
			}
		}
	}
	for _, p := range notPlain() {
		for _, needs := range needsOfNone() {
			mustHaveNoSize(t, p, needs)
		}
	}
}

func TestPromise67SizeHigh(t *testing.T) {
	drawingsOf(func(p []string, needs []int) {
		high, ok := impl.SizeHigh(p, needs)
		mustSize(t, "SizeHigh", p, needs)(high, ok, greatestSum(ledOf(p, 1), needs))
		q, _ := impl.PlanTrans(p)
		other := transNeeds(p, needs)
		wide, ok := impl.SizeWide(q, other)
		mustSize(t, "SizeWide", q, other)(wide, ok, high)
	})
}

func TestPromise68SizePlaces(t *testing.T) {
	for _, p := range orderPlans() {
		led := ledOf(p, 0)
		pairs := leftPairs(p)
		for _, needs := range needsFor(len(led)) {
			places, ok := impl.SizePlaces(p, needs)
			mustSizes(t, "SizePlaces", p, needs)(places, ok, pushed(led, needs, 0, 0))
			wide, _ := impl.SizeWide(p, needs)
			for room, at := range places {
				if at < 0 || at+needs[room] > wide {
					t.Fatalf("SizePlaces of %q with %v: %v, and SizeWide: %d", p, needs, places, wide)
				}
			}
			for _, pair := range pairs {
				if a, b := pair[0], pair[1]; places[a]+needs[a] > places[b] {
					t.Fatalf("SizePlaces of %q with %v: %v, and %d is left of %d", p, needs, places, a, b)
				}
			}
		}
	}
}

// leftPairs returns all pairs of rooms of which OrderLeft tells that the first one is left of the second one.
func leftPairs(p []string) [][2]int {
	var pairs [][2]int
	many := len(rectsOf(p))
	for a := range many {
		for b := range many {
			if impl.OrderLeft(p, a, b) {
				pairs = append(pairs, [2]int{a, b})
			}
		}
	}
	return pairs
}

func TestPromise69SizeSlack(t *testing.T) {
	drawingsOf(func(p []string, needs []int) {
		slack, ok := impl.SizeSlack(p, needs)
		led := ledOf(p, 0)
		mustSizes(t, "SizeSlack", p, needs)(slack, ok, slackOf(led, needs))
		places, _ := impl.SizePlaces(p, needs)
		wide, _ := impl.SizeWide(p, needs)
		still := 0
		for room, more := range slack {
			if more == 0 {
				still += needs[room]
			}
			moved := pushed(led, needs, room, places[room]+more)
			if more < 0 || endOf(moved, needs) > wide {
				t.Fatalf("SizeSlack of %q with %v: %v, and the rooms lie at %v with all of it for %d", p, needs, slack, moved, room)
			}
		}
		if still < wide {
			t.Fatalf("SizeSlack of %q with %v: %v, and SizeWide: %d", p, needs, slack, wide)
		}
	})
}

func TestPromise70SizeCut(t *testing.T) {
	drawingsOf(func(p []string, needs []int) {
		n, ok := impl.SizeCut(p, needs)
		widths := cutWidths(p, needs)
		if len(widths) == 0 {
			if ok || n != 0 || impl.CutIs(p) {
				t.Fatalf("SizeCut of %q with %v: %d, %v, not a failure", p, needs, n, ok)
			}
			return
		}
		mustSize(t, "SizeCut", p, needs)(n, ok, widths[0])
		wide, _ := impl.SizeWide(p, needs)
		mustSize(t, "SizeCut", p, needs)(n, ok, wide)
	})
}

func TestPromise71SizeArea(t *testing.T) {
	for _, p := range orderPlans() {
		lists := needsFor(len(rectsOf(p)))
		for i, widths := range lists {
			heights := lists[(i+2)%len(lists)]
			area, ok := impl.SizeArea(p, widths, heights)
			wide, _ := impl.SizeWide(p, widths)
			high, _ := impl.SizeHigh(p, heights)
			mustSize(t, "SizeArea", p, widths, heights)(area, ok, wide*high)
			products := 0
			for room := range widths {
				products += widths[room] * heights[room]
			}
			if area < products {
				t.Fatalf("SizeArea of %q with %v and %v: %d, and the rooms need %d", p, widths, heights, area, products)
			}
		}
	}
}

// TestPromise71NoArea checks wrong widths with right heights, the other way around, and both, and plans that are not plain or none.
func TestPromise71NoArea(t *testing.T) {
	for _, c := range sizeCases {
		for _, needs := range noNeeds(len(c.needs)) {
			mustHaveNoArea(t, c.plan, needs, c.needs)
			mustHaveNoArea(t, c.plan, c.needs, needs)
			mustHaveNoArea(t, c.plan, needs, needs)
		}
	}
	for _, p := range notPlain() {
		for _, needs := range needsOfNone() {
			mustHaveNoArea(t, p, needs, needs)
		}
	}
}

// TestSizesShareNothing checks that arguments stay as they are, also behind their ends, and that results are new.
func TestSizesShareNothing(t *testing.T) {
	whole, list := []string{"aab", "cdb", "cee", "x", "y"}, []int{5, 4, 3, 2, 1, 77, 88}
	plan, needs := slices.Clone(whole), slices.Clone(list)
	p, n := plan[:3], needs[:5]
	for name, tell := range map[string]func([]string, []int) ([]int, bool){
		"SizePlaces": impl.SizePlaces, "SizeSlack": impl.SizeSlack,
	} {
		first, _ := tell(p, n)
		kept := slices.Clone(first)
		second, _ := tell(p, n)
		for i := range second[:cap(second)] {
			second[:cap(second)][i] = 99
		}
		if !slices.Equal(first, kept) {
			t.Errorf("%s shares memory with an earlier result: %v", name, first)
		}
		third, ok := tell(p, n)
		mustSizes(t, name, p, n)(third, ok, kept)
	}
	impl.SizeWide(p, n)
	impl.SizeHigh(p, n)
	impl.SizeCut(p, n)
	impl.SizeCut([]string{"ab", "cb"}, needs[:3])
	impl.SizeArea(p, n, n)
	if !slices.Equal(plan, whole) || !slices.Equal(needs, list) {
		t.Errorf("the arguments are now %q and %v", plan, needs)
	}
}
