package tests

import (
	"slices"
	"strconv"
	"testing"

	"loop.example/floorrooms/impl"
)

// orderCase is what is known by hand of a plain plan: for each room its kind to each one, both orders, the permutation,
// the greatest numbers of rooms left of and above each other, and the number of plans with this permutation, or 0 for more than nine cells.
type orderCase struct {
	plan                []string
	kinds               []string
	first, second, perm []int
	long                [2]int
	slide               int
}

var orderCases = []orderCase{
	{[]string{"a"}, []string{"."}, []int{0}, []int{0}, []int{0}, [2]int{1, 1}, 1},
	{[]string{"aaa", "aaa", "aaa"}, []string{"."}, []int{0}, []int{0}, []int{0}, [2]int{1, 1}, 1},
	{[]string{"aaaaaa", "aaaaaa", "aaaaaa", "aaaaaa", "aaaaaa", "aaaaaa"}, []string{"."}, []int{0}, []int{0}, []int{0}, [2]int{1, 1}, 0},
	// One row and one column: the third room comes only by way of the second one.
	{[]string{"abc"}, []string{".ll", "r.l", "rr."}, []int{0, 1, 2}, []int{0, 1, 2}, []int{0, 1, 2}, [2]int{3, 1}, 1},
	{[]string{"a", "b", "c"}, []string{".uu", "d.u", "dd."}, []int{0, 1, 2}, []int{2, 1, 0}, []int{2, 1, 0}, [2]int{1, 3}, 1},
	{[]string{"aaaabb"}, []string{".l", "r."}, []int{0, 1}, []int{0, 1}, []int{0, 1}, [2]int{2, 1}, 5},
	{[]string{"a", "a", "b", "b"}, []string{".u", "d."}, []int{0, 1}, []int{1, 0}, []int{1, 0}, [2]int{1, 2}, 3},
	{[]string{"abcdef"}, []string{".lllll", "r.llll", "rr.lll", "rrr.ll", "rrrr.l", "rrrrr."},
		[]int{0, 1, 2, 3, 4, 5}, []int{0, 1, 2, 3, 4, 5}, []int{0, 1, 2, 3, 4, 5}, [2]int{6, 1}, 1},
	{[]string{"aaa", "bbb", "bbb"}, []string{".u", "d."}, []int{0, 1}, []int{1, 0}, []int{1, 0}, [2]int{1, 2}, 2},
	{[]string{"aabb", "cccc"}, []string{".lu", "r.u", "dd."}, []int{0, 1, 2}, []int{2, 0, 1}, []int{2, 0, 1}, [2]int{2, 2}, 3},
	{[]string{"ab", "cb"}, []string{".lu", "r.r", "dl."}, []int{0, 2, 1}, []int{2, 0, 1}, []int{1, 0, 2}, [2]int{2, 2}, 1},
	{[]string{"aab", "aab", "ccb"}, []string{".lu", "r.r", "dl."}, []int{0, 2, 1}, []int{2, 0, 1}, []int{1, 0, 2}, [2]int{2, 2}, 4},
	// A wall has all its rooms on both sides, also those that lie in other rows: a is left of d.
	{[]string{"ab", "cb", "cd"}, []string{".lul", "r.ru", "dl.l", "rdr."}, []int{0, 2, 1, 3}, []int{2, 0, 3, 1}, []int{1, 0, 3, 2}, [2]int{2, 2}, 2},
	{[]string{"abb", "cbb", "cdd"}, []string{".lul", "r.ru", "dl.l", "rdr."}, []int{0, 2, 1, 3}, []int{2, 0, 3, 1}, []int{1, 0, 3, 2}, [2]int{2, 2}, 4},
	// The wheels: c is left of b only by way of d, and a left of d only by way of c.
	{[]string{"aab", "cdb", "cee"}, []string{".luuu", "r.rru", "dl.ll", "dlr.u", "ddrd."},
		[]int{0, 2, 3, 1, 4}, []int{2, 4, 3, 0, 1}, []int{1, 4, 2, 0, 3}, [2]int{3, 3}, 1},
	{[]string{"abb", "acd", "eed"}, []string{".lllu", "r.uuu", "rd.lu", "rdr.r", "dddl."},
		[]int{0, 1, 2, 4, 3}, []int{4, 0, 2, 3, 1}, []int{3, 0, 2, 4, 1}, [2]int{3, 3}, 1},
	// More than nine cells, and as many rows, columns and rooms as there may be.
	{[]string{"abbbb", "abbbb"}, []string{".l", "r."}, []int{0, 1}, []int{0, 1}, []int{0, 1}, [2]int{2, 1}, 0},
	{[]string{"aaaabc", "ddddbc", "efggbc", "efgghh", "efiiii", "efiiii"},
		[]string{".lluuuulu", "r.lrrrruu", "rr.rrrruu", "dll.uuulu", "dlld.llll", "dlldr.lll", "dlldrr.lu", "rddrrrr.u", "ddddrrdd."},
		[]int{0, 3, 4, 5, 6, 1, 2, 7, 8}, []int{4, 5, 8, 6, 3, 0, 7, 1, 2}, []int{2, 3, 8, 4, 1, 0, 7, 5, 6}, [2]int{5, 4}, 0},
}

func TestOrdersByHand(t *testing.T) {
	for _, c := range orderCases {
		p := c.plan
		for a, text := range c.kinds {
			for b := range len(text) {
				want := text[b : b+1]
				if a == b {
					want = ""
				}
				mustKind(t, p, a, b, want)
			}
		}
		rooms, ok := impl.OrderFirst(p)
		mustRooms(t, "OrderFirst", p)(rooms, ok, c.first)
		rooms, ok = impl.OrderSecond(p)
		mustRooms(t, "OrderSecond", p)(rooms, ok, c.second)
		rooms, ok = impl.OrderPerm(p)
		mustRooms(t, "OrderPerm", p)(rooms, ok, c.perm)
		mustLong(t, p, c.long[0], c.long[1])
		many, ok := impl.OrderSlide(p)
		if c.slide == 0 {
			mustFailWithNumber(t, "OrderSlide", p)(many, ok)
		} else {
			mustNumber(t, "OrderSlide", p)(many, ok, c.slide)
		}
	}
}

func TestHelperOrders(t *testing.T) {
	for _, c := range orderCases {
		p := c.plan
		if !isPlan(p) || !isPlain(p) || !slices.Equal(kindsOf(p), c.kinds) || !slices.Equal(permOf(p), c.perm) {
			t.Errorf("%q has the kinds %q and the permutation %v", p, kindsOf(p), permOf(p))
		}
		if n := slidesOf(len(p), min(len(p[0]), 9/len(p)))[listText(c.perm)]; c.slide > 0 && n != c.slide {
			t.Errorf("%q has %d plans with its permutation, not %d", p, n, c.slide)
		}
	}
	over, stuck, full := 0, 0, 0
	for _, p := range orderPlans() {
		kinds := kindsOf(p)
		if !slices.Equal(lineOf(kinds, "lu"), peeled(p)) || !slices.Equal(lineOf(kinds, "ld"), peeled(upsideDown(p))) {
			t.Fatalf("%q has the kinds %q, and the rooms go in the orders %v and %v", p, kinds, peeled(p), peeled(upsideDown(p)))
		}
		if stuckIn(p, allOf(p)) != nil {
			stuck++
		}
		if len(kinds) == 9 {
			full++
		}
		lengths := lengthsOf(p)
		for a := range kinds {
			for b := range kinds {
				if lengths[a][b] == 0 && a != b {
					over++
				}
			}
		}
	}
	if over < 10000 || stuck < 500 || full < 100 || len(crossedPlans()) < 100 {
		t.Errorf("%d pairs are no neighbours, %d plans are stuck, %d have nine rooms, %d have crosses", over, stuck, full, len(crossedPlans()))
	}
}

func TestPromise40OrderLeft(t *testing.T) {
	for _, p := range orderPlans() {
		left := ledOf(p, 0)
		for a := range left {
			for b, want := range left[a] {
				is := impl.OrderLeft(p, a, b)
				if is != want {
					t.Fatalf("OrderLeft of %q, %d, %d: %v", p, a, b, is)
				}
				if is && (impl.OrderLeft(p, b, a) || impl.OrderAbove(p, a, b) || impl.OrderAbove(p, b, a)) {
					t.Fatalf("OrderLeft of %q, %d, %d holds, and another order does, too", p, a, b)
				}
			}
		}
		mustLeadOn(t, "OrderLeft", p, impl.OrderLeft)
	}
}

// mustLeadOn checks that an order of two rooms leads on over third rooms, and that none is ahead of itself.
func mustLeadOn(t *testing.T, what string, p []string, ask func(p []string, a, b int) bool) {
	t.Helper()
	many := len(rectsOf(p))
	is := make([][]bool, many)
	for a := range is {
		for b := range many {
			is[a] = append(is[a], ask(p, a, b))
		}
	}
	for a := range is {
		if is[a][a] {
			t.Fatalf("%s of %q holds for %d and itself", what, p, a)
		}
		for b := range is {
			for c := range is {
				if is[a][b] && is[b][c] && !is[a][c] {
					t.Fatalf("%s of %q does not lead on from %d over %d to %d", what, p, a, b, c)
				}
			}
		}
	}
}

// TestPromises40To42NoRooms checks what is asked of rooms of which one or both are none of the plan, of the same room twice,
// and of plans that are not plain or none.
func TestPromises40To42NoRooms(t *testing.T) {
	for _, p := range append(fillPlans(2, 3), []string{"a"}, []string{"aab", "cdb", "cee"}, orderCases[len(orderCases)-1].plan) {
		last := len(rectsOf(p)) - 1
		for room := range last + 1 {
			mustKind(t, p, room, room, "")
		}
		for _, far := range noRooms(p) {
			for _, pair := range [][2]int{{0, far}, {far, 0}, {last, far}, {far, last}, {far, far}, {far, -1}} {
				mustKind(t, p, pair[0], pair[1], "")
			}
		}
	}
	for _, p := range notPlain() {
		for a := -1; a < 4; a++ {
			for b := -1; b < 4; b++ {
				mustKind(t, p, a, b, "")
			}
		}
	}
}

func TestPromise41OrderAbove(t *testing.T) {
	for _, p := range orderPlans() {
		above := ledOf(p, 1)
		for a := range above {
			for b, want := range above[a] {
				is := impl.OrderAbove(p, a, b)
				kind, _ := impl.OrderKind(p, a, b)
				if is != want || is != (kind == "u") {
					t.Fatalf("OrderAbove of %q, %d, %d: %v, and the kind is %q", p, a, b, is, kind)
				}
			}
		}
		mustLeadOn(t, "OrderAbove", p, impl.OrderAbove)
	}
}

func TestPromise42OrderKind(t *testing.T) {
	for _, p := range orderPlans() {
		kinds := kindsOf(p)
		for a := range kinds {
			for b := range kinds {
				kind, ok := impl.OrderKind(p, a, b)
				if a == b {
					mustKind(t, p, a, b, "")
					continue
				}
				holds := ""
				for letter, is := range map[string]bool{
					"l": impl.OrderLeft(p, a, b), "r": impl.OrderLeft(p, b, a), "u": impl.OrderAbove(p, a, b), "d": impl.OrderAbove(p, b, a),
				} {
					if is {
						holds += letter
					}
				}
				if !ok || kind != kinds[a][b:b+1] || holds != kind {
					t.Fatalf("OrderKind of %q, %d, %d: %q, %v, not %q, and what holds is %q", p, a, b, kind, ok, kinds[a][b:b+1], holds)
				}
			}
		}
	}
}

func TestPromise43OrderKind(t *testing.T) {
	for _, p := range orderPlans() {
		rects := rectsOf(p)
		for a, r := range rects {
			for b, s := range rects {
				switch kind, _ := impl.OrderKind(p, a, b); {
				case kind == "l" && r.column+r.wide > s.column,
					kind == "r" && s.column+s.wide > r.column,
					kind == "u" && r.row+r.high > s.row,
					kind == "d" && s.row+s.high > r.row:
					t.Fatalf("OrderKind of %q, %d, %d: %q, and they lie at %v and %v", p, a, b, kind, r, s)
				}
			}
		}
	}
}

func TestPromise44OrderFirst(t *testing.T) {
	for _, p := range orderPlans() {
		rooms, ok := impl.OrderFirst(p)
		mustRooms(t, "OrderFirst", p)(rooms, ok, peeled(p))
		last := p[len(p)-1]
		if rooms[0] != 0 || rooms[len(rooms)-1] != int(last[len(last)-1]-'a') {
			t.Fatalf("OrderFirst of %q: %v, without the rooms at the corners", p, rooms)
		}
		for i := 1; i < len(rooms); i++ {
			if !impl.OrderLeft(p, rooms[i-1], rooms[i]) && !impl.OrderAbove(p, rooms[i-1], rooms[i]) {
				t.Fatalf("OrderFirst of %q: %v, and %d is not ahead of the next one", p, rooms, rooms[i-1])
			}
		}
	}
	for _, p := range notPlain() {
		rooms, ok := impl.OrderFirst(p)
		mustFailWithRooms(t, "OrderFirst", p)(rooms, ok)
	}
}

func TestPromise45OrderSecond(t *testing.T) {
	for _, p := range orderPlans() {
		rooms, ok := impl.OrderSecond(p)
		mustRooms(t, "OrderSecond", p)(rooms, ok, peeled(upsideDown(p)))
		upper, lower := p[0], p[len(p)-1]
		if rooms[0] != int(lower[0]-'a') || rooms[len(rooms)-1] != int(upper[len(upper)-1]-'a') {
			t.Fatalf("OrderSecond of %q: %v, without the rooms at the corners", p, rooms)
		}
		first, _ := impl.OrderFirst(p)
		if !slices.Equal(sorted(rooms), sorted(first)) {
			t.Fatalf("OrderSecond of %q: %v, and OrderFirst: %v", p, rooms, first)
		}
	}
	for _, p := range notPlain() {
		rooms, ok := impl.OrderSecond(p)
		mustFailWithRooms(t, "OrderSecond", p)(rooms, ok)
	}
}

func TestPromise46OrderPerm(t *testing.T) {
	wide := 0
	for _, p := range orderPlans() {
		perm, ok := impl.OrderPerm(p)
		mustRooms(t, "OrderPerm", p)(perm, ok, permOf(p))
		q, _ := impl.PlanTight(p)
		same, ok := impl.OrderPerm(q)
		mustRooms(t, "OrderPerm", q)(same, ok, perm)
		if q, told := impl.PlanWide(p, 2); told {
			wide++
			same, ok = impl.OrderPerm(q)
			mustRooms(t, "OrderPerm", q)(same, ok, perm)
		}
	}
	if wide < 200 {
		t.Errorf("only %d plans are told twice as wide", wide)
	}
	for _, p := range notPlain() {
		perm, ok := impl.OrderPerm(p)
		mustFailWithRooms(t, "OrderPerm", p)(perm, ok)
	}
}

func TestPromise47OrderPerm(t *testing.T) {
	for _, p := range orderPlans() {
		perm, _ := impl.OrderPerm(p)
		q, _ := impl.PlanTrans(p)
		other, ok := impl.OrderPerm(q)
		mustRooms(t, "OrderPerm", q)(other, ok, backwards(perm))
	}
}

func TestPromise48OrderSame(t *testing.T) {
	var plans [][]string
	for _, size := range [][2]int{{1, 1}, {1, 3}, {2, 2}, {2, 3}, {3, 2}, {3, 3}} {
		plans = append(plans, fillPlans(size[0], size[1])...)
	}
	plans = append(plans, orderCases[len(orderCases)-1].plan, nine)
	var perms []string
	for i, p := range plans {
		perms = append(perms, "none "+strconv.Itoa(i))
		if isPlain(p) {
			perms[i] = listText(permOf(p))
		}
	}
	alike := 0
	for i, p := range plans {
		for j, q := range plans {
			same := impl.OrderSame(p, q)
			if want := isPlain(p) && perms[i] == perms[j]; same != want || impl.OrderSame(q, p) != same {
				t.Fatalf("OrderSame of %q and %q: %v", p, q, same)
			}
			if !same || slices.Equal(p, q) {
				continue
			}
			alike++
			turned, _ := impl.PlanTurn(p)
			other, _ := impl.PlanTurn(q)
			if !impl.OrderSame(turned, other) || impl.CutIs(p) != impl.CutIs(q) {
				t.Fatalf("OrderSame of %q and %q holds, and not for both turned, or CutIs is another one", p, q)
			}
		}
	}
	if alike < 200 {
		t.Errorf("only %d pairs have the same permutation", alike)
	}
	for _, p := range notPlain() {
		if impl.OrderSame(p, p) || impl.OrderSame(p, []string{"a"}) || impl.OrderSame([]string{"a"}, p) {
			t.Fatalf("OrderSame holds for %q", p)
		}
	}
}

func TestPromise49OrderLong(t *testing.T) {
	for _, p := range orderPlans() {
		left, above, _ := impl.OrderLong(p)
		mustLong(t, p, longestLed(ledOf(p, 0)), longestLed(ledOf(p, 1)))
		if left > len(p[0]) || above > len(p) || left*above < len(rectsOf(p)) {
			t.Fatalf("OrderLong of %q: %d and %d", p, left, above)
		}
	}
	for _, p := range notPlain() {
		if left, above, ok := impl.OrderLong(p); ok || left != 0 || above != 0 {
			t.Fatalf("OrderLong of %q: %d, %d, %v", p, left, above, ok)
		}
	}
}

func TestPromise50OrderSlide(t *testing.T) {
	for _, size := range smallSizes() {
		slides := slidesOf(size[0], size[1])
		for _, p := range fillPlans(size[0], size[1]) {
			many, ok := impl.OrderSlide(p)
			if !isPlain(p) {
				mustFailWithNumber(t, "OrderSlide", p)(many, ok)
				continue
			}
			mustNumber(t, "OrderSlide", p)(many, ok, slides[listText(permOf(p))])
			q, _ := impl.PlanTurn(p)
			turned, ok := impl.OrderSlide(q)
			mustNumber(t, "OrderSlide", q)(turned, ok, many)
		}
	}
	for _, p := range append(notPlain(), scatter(400)...) {
		if !isPlan(p) || !isPlain(p) || len(p)*len(p[0]) > 9 {
			many, ok := impl.OrderSlide(p)
			mustFailWithNumber(t, "OrderSlide", p)(many, ok)
		}
	}
}

func TestPromise51OrderLong(t *testing.T) {
	for _, p := range orderPlans() {
		perm, _ := impl.OrderPerm(p)
		mustLong(t, p, longestPart(perm), longestPart(backwards(perm)))
	}
}

func TestPromise52OrderKind(t *testing.T) {
	for _, p := range orderPlans() {
		first, _ := impl.OrderFirst(p)
		second, _ := impl.OrderSecond(p)
		for a := range first {
			for b := range first {
				if a == b {
					continue
				}
				kind := ""
				switch ahead := slices.Index(second, a) < slices.Index(second, b); {
				case slices.Index(first, a) < slices.Index(first, b) && ahead:
					kind = "l"
				case slices.Index(first, a) < slices.Index(first, b):
					kind = "u"
				case ahead:
					kind = "d"
				default:
					kind = "r"
				}
				mustKind(t, p, a, b, kind)
			}
		}
	}
}

func TestPromise53OrderPerm(t *testing.T) {
	cuttable := 0
	for _, p := range orderPlans() {
		perm, _ := impl.OrderPerm(p)
		least := false
		for many := 1; many < len(perm); many++ {
			least = least || slices.Max(perm[:many]) == many-1
		}
		walls, _ := impl.WallList(p)
		cut := slices.ContainsFunc(walls, func(w []int) bool { return w[0] == 0 && w[3] == len(p) })
		if cut != least {
			t.Fatalf("OrderPerm of %q: %v, and an upright cut: %v", p, perm, cut)
		}
		if cut {
			cuttable++
		}
	}
	if cuttable < 500 {
		t.Errorf("only %d plans have upright cuts", cuttable)
	}
}

// TestOrdersShareNothing checks that arguments stay as they are, also behind their ends, and that results are new.
func TestOrdersShareNothing(t *testing.T) {
	whole := []string{"aab", "cdb", "cee", "x", "y"}
	p := slices.Clone(whole)
	for name, tell := range map[string]func([]string) ([]int, bool){
		"OrderFirst": impl.OrderFirst, "OrderSecond": impl.OrderSecond, "OrderPerm": impl.OrderPerm,
	} {
		first, _ := tell(p[:3])
		kept := slices.Clone(first)
		second, _ := tell(p[:3])
		for i := range second[:cap(second)] {
			second[:cap(second)][i] = 99
		}
		if !slices.Equal(first, kept) {
			t.Errorf("%s shares memory with an earlier result: %v", name, first)
		}
		third, ok := tell(p[:3])
		mustRooms(t, name, p[:3])(third, ok, kept)
	}
	impl.OrderLeft(p[:3], 0, 1)
	impl.OrderAbove(p[:3], 0, 1)
	impl.OrderKind(p[:3], 0, 1)
	impl.OrderSame(p[:3], p[:3])
	impl.OrderLong(p[:3])
	impl.OrderSlide(p[:3])
	if !slices.Equal(p, whole) {
		t.Errorf("the argument is now %q", p)
	}
}
