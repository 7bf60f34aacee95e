package tests

import (
	"slices"
	"testing"

	"loop.example/floorrooms/impl"
)

// countCase is what is known of all plans of some rows and columns: the numbers of plans by rooms from 0 on,
// and those of different permutations of plain ones by rooms from 1 on to 7.
type countCase struct {
	n, m                     int
	rooms, plain, cut, perms []int
}

var countCases = []countCase{
	{1, 1, []int{0, 1}, []int{0, 1}, []int{0, 1}, []int{1, 0, 0, 0, 0, 0, 0}},
	// One row or one column: the ways to choose walls.
	{1, 2, []int{0, 1, 1}, []int{0, 1, 1}, []int{0, 1, 1}, []int{1, 1, 0, 0, 0, 0, 0}},
	{1, 4, []int{0, 1, 3, 3, 1}, []int{0, 1, 3, 3, 1}, []int{0, 1, 3, 3, 1}, []int{1, 1, 1, 1, 0, 0, 0}},
	{1, 6, []int{0, 1, 5, 10, 10, 5, 1}, []int{0, 1, 5, 10, 10, 5, 1}, []int{0, 1, 5, 10, 10, 5, 1}, []int{1, 1, 1, 1, 1, 1, 0}},
	{5, 1, []int{0, 1, 4, 6, 4, 1}, []int{0, 1, 4, 6, 4, 1}, []int{0, 1, 4, 6, 4, 1}, []int{1, 1, 1, 1, 1, 0, 0}},
	{6, 1, []int{0, 1, 5, 10, 10, 5, 1}, []int{0, 1, 5, 10, 10, 5, 1}, []int{0, 1, 5, 10, 10, 5, 1}, []int{1, 1, 1, 1, 1, 1, 0}},
	// Four rooms of one cell have a cross.
	{2, 2, []int{0, 1, 2, 4, 1}, []int{0, 1, 2, 4, 0}, []int{0, 1, 2, 4, 1}, []int{1, 2, 4, 0, 0, 0, 0}},
	// Three rooms below each other do not fit in two rows; those of five rooms have a pair in the middle column.
	{2, 3, []int{0, 1, 3, 9, 13, 7, 1}, []int{0, 1, 3, 9, 11, 1, 0}, []int{0, 1, 3, 9, 13, 7, 1}, []int{1, 2, 5, 10, 1, 0, 0}},
	{3, 2, []int{0, 1, 3, 9, 13, 7, 1}, []int{0, 1, 3, 9, 11, 1, 0}, []int{0, 1, 3, 9, 13, 7, 1}, []int{1, 2, 5, 10, 1, 0, 0}},
	// Plans of 2 by 4 are known to be 148 in all, and those of 3 by 3 to be 322, of which both wheels alone are not cuttable.
	// The numbers for few and for many rooms are worked out by hand; those between, and of permutations of four and more numbers,
	// are what the helpers and the program found alike.
	{2, 4, []int{0, 1, 4, 15, 37, 47, 33, 10, 1}, []int{0, 1, 4, 15, 34, 29, 7, 0, 0}, []int{0, 1, 4, 15, 37, 47, 33, 10, 1}, []int{1, 2, 5, 11, 21, 7, 0}},
	{4, 2, []int{0, 1, 4, 15, 37, 47, 33, 10, 1}, []int{0, 1, 4, 15, 34, 29, 7, 0, 0}, []int{0, 1, 4, 15, 37, 47, 33, 10, 1}, []int{1, 2, 5, 11, 21, 7, 0}},
	{3, 3, []int{0, 1, 4, 18, 48, 92, 96, 50, 12, 1}, []int{0, 1, 4, 18, 44, 68, 24, 2, 0, 0}, []int{0, 1, 4, 18, 48, 90, 96, 50, 12, 1},
		[]int{1, 2, 6, 20, 50, 18, 2}},
}

// firstCase is a permutation and the first plan that has it, or none.
type firstCase struct {
	n, m int
	perm []int
	plan []string
}

var firstCases = []firstCase{
	{1, 1, []int{0}, []string{"a"}},
	{1, 1, []int{0, 1}, nil},
	{1, 1, []int{1, 0}, nil},
	{1, 2, []int{0, 1}, []string{"ab"}},
	{1, 2, []int{1, 0}, nil},
	{1, 6, []int{0}, []string{"aaaaaa"}},
	{1, 6, []int{0, 1}, []string{"abbbbb"}},
	{1, 6, []int{0, 1, 2}, []string{"abcccc"}},
	{1, 6, []int{0, 1, 2, 3, 4, 5}, []string{"abcdef"}},
	{1, 6, []int{0, 1, 2, 3, 4, 5, 6}, nil},
	{1, 6, []int{0, 2, 1}, nil},
	{6, 1, []int{1, 0}, []string{"a", "b", "b", "b", "b", "b"}},
	{6, 1, []int{0, 1}, nil},
	{6, 1, []int{5, 4, 3, 2, 1, 0}, []string{"a", "b", "c", "d", "e", "f"}},
	{6, 1, []int{6, 5, 4, 3, 2, 1, 0}, nil},
	{2, 2, []int{0}, []string{"aa", "aa"}},
	{2, 2, []int{0, 2, 1}, []string{"ab", "ac"}},
	{2, 2, []int{1, 0, 2}, []string{"ab", "cb"}},
	{2, 2, []int{1, 2, 0}, []string{"aa", "bc"}},
	{2, 2, []int{2, 0, 1}, []string{"ab", "cc"}},
	{2, 2, []int{0, 1, 2}, nil},
	{2, 2, []int{2, 1, 0}, nil},
	// Two upright or two level walls that would meet in a cross need a row or a column more.
	{2, 2, []int{1, 0, 3, 2}, nil},
	{2, 3, []int{1, 0, 3, 2}, nil},
	{3, 2, []int{1, 0, 3, 2}, []string{"ab", "cb", "cd"}},
	{2, 3, []int{2, 3, 0, 1}, []string{"abb", "ccd"}},
	{2, 3, []int{2, 1, 0}, nil},
	{3, 2, []int{2, 1, 0}, []string{"aa", "bb", "cc"}},
	// Widths of rooms decide, then heights: first plans of several ones, some of them found by the helpers.
	{2, 4, []int{2, 3, 0, 1}, []string{"abbb", "ccdd"}},
	{2, 4, []int{1, 2, 0, 3}, []string{"aabb", "cdbb"}},
	{4, 2, []int{2, 1, 0, 4, 3}, []string{"ab", "cb", "cd", "ed"}},
	{4, 2, []int{1, 0, 3, 2}, []string{"ab", "cb", "cd", "cd"}},
	{3, 3, []int{0, 1}, []string{"abb", "abb", "abb"}},
	{3, 3, []int{1, 0}, []string{"aaa", "bbb", "bbb"}},
	{3, 3, []int{1, 0, 3, 4, 2}, []string{"abb", "cbb", "cde"}},
	{3, 3, []int{1, 0, 3, 2, 5, 4}, []string{"abc", "dbe", "dfe"}},
	// The wheels, and the plans with a triple room in the middle, have permutations of their own.
	{3, 3, []int{1, 4, 2, 0, 3}, []string{"aab", "cdb", "cee"}},
	{3, 3, []int{3, 0, 2, 4, 1}, []string{"abb", "acd", "eed"}},
	{3, 3, []int{4, 5, 6, 3, 0, 1, 2}, []string{"abc", "ddd", "efg"}},
	{3, 3, []int{2, 1, 0, 3, 6, 5, 4}, []string{"abc", "dbe", "fbg"}},
	{3, 3, []int{0, 1, 2, 3}, nil},
	// No plan at all has a permutation that is not fair.
	{3, 3, []int{1, 3, 0, 2}, nil},
	{3, 3, []int{2, 0, 3, 1}, nil},
}

func TestCountsKnown(t *testing.T) {
	for _, c := range countCases {
		counts, ok := impl.CountRooms(c.n, c.m)
		mustCounts(t, "CountRooms", c.n, c.m)(counts, ok, c.rooms)
		counts, ok = impl.CountPlain(c.n, c.m)
		mustCounts(t, "CountPlain", c.n, c.m)(counts, ok, c.plain)
		counts, ok = impl.CountCut(c.n, c.m)
		mustCounts(t, "CountCut", c.n, c.m)(counts, ok, c.cut)
		for i, many := range c.perms {
			mustOrders(t, c.n, c.m, i+1, many)
		}
	}
	for _, c := range firstCases {
		mustFirst(t, c.n, c.m, c.perm, c.plan)
	}
}

func TestHelperCounts(t *testing.T) {
	for _, c := range countCases {
		all := askedOf()[[2]int{c.n, c.m}]
		perms := make([]int, 7)
		copy(perms, all.orders[1:])
		if !slices.Equal(all.rooms, c.rooms) || !slices.Equal(all.plain, c.plain) || !slices.Equal(all.cut, c.cut) || !slices.Equal(perms, c.perms) {
			t.Errorf("%d, %d: %v, %v plain, %v cuttable, %v permutations", c.n, c.m, all.rooms, all.plain, all.cut, perms)
		}
	}
	for _, c := range firstCases {
		if p := askedOf()[[2]int{c.n, c.m}].first[listText(c.perm)]; !slices.Equal(p, c.plan) {
			t.Errorf("%v: %q comes first", c, p)
		}
	}
	for _, size := range smallSizes() {
		sides, rooms := sidedPlans(size[0], size[1]), fillPlans(size[0], size[1])
		slices.SortFunc(sides, slices.Compare)
		slices.SortFunc(rooms, slices.Compare)
		if !slices.EqualFunc(sides, rooms, slices.Equal) {
			t.Errorf("%v: %d plans by sides, %d by rooms", size, len(sides), len(rooms))
		}
	}
}

func TestPromise84CountRooms(t *testing.T) {
	for size, all := range askedOf() {
		n, m := size[0], size[1]
		counts, ok := impl.CountRooms(n, m)
		mustCounts(t, "CountRooms", n, m)(counts, ok, all.rooms)
		if len(counts) != n*m+1 || counts[0] != 0 || counts[1] != 1 || counts[n*m] != 1 {
			t.Fatalf("CountRooms of %d, %d: %v", n, m, counts)
		}
		other, ok := impl.CountRooms(m, n)
		mustCounts(t, "CountRooms", m, n)(other, ok, counts)
	}
}

func TestPromise85CountPlain(t *testing.T) {
	for size, all := range askedOf() {
		n, m := size[0], size[1]
		counts, ok := impl.CountPlain(n, m)
		mustCounts(t, "CountPlain", n, m)(counts, ok, all.plain)
		rooms, _ := impl.CountRooms(n, m)
		mustBeWithin(t, "CountPlain", n, m)(counts, rooms)
		if (n == 1 || m == 1) && !slices.Equal(counts, rooms) {
			t.Fatalf("CountPlain of %d, %d: %v, and CountRooms: %v", n, m, counts, rooms)
		}
		other, ok := impl.CountPlain(m, n)
		mustCounts(t, "CountPlain", m, n)(other, ok, counts)
	}
}

// mustBeWithin checks that there are as many numbers as those of all plans, and none is greater.
func mustBeWithin(t *testing.T, what string, n, m int) func(counts, rooms []int) {
	return func(counts, rooms []int) {
		t.Helper()
		if len(counts) != n*m+1 || len(rooms) != n*m+1 {
			t.Fatalf("%s of %d, %d: %v, and CountRooms: %v", what, n, m, counts, rooms)
		}
		for i, many := range counts {
			if many < 0 || many > rooms[i] {
				t.Fatalf("%s of %d, %d: %v, and CountRooms: %v", what, n, m, counts, rooms)
			}
		}
	}
}

func TestPromise86CountCut(t *testing.T) {
	for size, all := range askedOf() {
		n, m := size[0], size[1]
		counts, ok := impl.CountCut(n, m)
		mustCounts(t, "CountCut", n, m)(counts, ok, all.cut)
		rooms, _ := impl.CountRooms(n, m)
		mustBeWithin(t, "CountCut", n, m)(counts, rooms)
		if few := min(5, len(counts)); !slices.Equal(counts[:few], rooms[:few]) {
			t.Fatalf("CountCut of %d, %d: %v, and CountRooms: %v", n, m, counts, rooms)
		}
		other, ok := impl.CountCut(m, n)
		mustCounts(t, "CountCut", m, n)(other, ok, counts)
	}
}

// TestPromises84To86NoPlans checks rows and columns of which no plans are asked.
func TestPromises84To86NoPlans(t *testing.T) {
	for _, wrong := range noFrames() {
		for what, tell := range map[string]func(n, m int) ([]int, bool){
			"CountRooms": impl.CountRooms, "CountPlain": impl.CountPlain, "CountCut": impl.CountCut,
		} {
			if counts, ok := tell(wrong[0], wrong[1]); ok || len(counts) != 0 {
				t.Fatalf("%s of %v: %v, %v, not a failure", what, wrong, counts, ok)
			}
		}
	}
}

func TestPromise87CountOrders(t *testing.T) {
	for size, all := range askedOf() {
		n, m := size[0], size[1]
		plain, _ := impl.CountPlain(n, m)
		for rooms := 1; rooms <= 7; rooms++ {
			want, most := 0, 0
			if rooms <= n*m {
				want, most = all.orders[rooms], plain[rooms]
			}
			mustOrders(t, n, m, rooms, want)
			mustOrders(t, m, n, rooms, want)
			if fair, ok := impl.PermFairSum(rooms); !ok || want > fair || want > most {
				t.Fatalf("CountOrders of %d, %d, %d: %d, and PermFairSum: %d, and plain plans: %d", n, m, rooms, want, fair, most)
			}
		}
	}
}

func TestPromise87NoOrders(t *testing.T) {
	for _, size := range smallSizes() {
		for _, wrong := range noLengths {
			mustHaveNoOrders(t, size[0], size[1], wrong)
		}
	}
	for _, wrong := range noFrames() {
		for rooms := 1; rooms <= 7; rooms++ {
			mustHaveNoOrders(t, wrong[0], wrong[1], rooms)
		}
		mustHaveNoOrders(t, wrong[0], wrong[1], 0)
		mustHaveNoOrders(t, wrong[0], wrong[1], 8)
	}
}

func TestPromise88CountFirst(t *testing.T) {
	perms := allPerms()
	for size, all := range askedOf() {
		n, m := size[0], size[1]
		found := 0
		for _, perm := range perms {
			want := all.first[listText(perm)]
			mustFirst(t, n, m, perm, want)
			if want == nil {
				continue
			}
			found++
			p, _ := impl.CountFirst(n, m, perm)
			same, ok := impl.OrderPerm(p)
			mustRooms(t, "OrderPerm", p)(same, ok, perm)
			if len(p) != n || len(p[0]) != m || !impl.WallPlain(p) {
				t.Fatalf("CountFirst of %d, %d, %v: %q", n, m, perm, p)
			}
		}
		orders := 0
		for rooms := 1; rooms <= 7; rooms++ {
			many, _ := impl.CountOrders(n, m, rooms)
			orders += many
		}
		if found != orders {
			t.Fatalf("%d, %d: %d permutations have a first plan, and CountOrders tells %d", n, m, found, orders)
		}
	}
}

func TestPromise88NoFirst(t *testing.T) {
	for _, size := range smallSizes() {
		for _, list := range noPerms() {
			mustFirst(t, size[0], size[1], list, nil)
		}
	}
	for _, wrong := range noFrames() {
		for _, list := range [][]int{{0}, {0, 1}, {1, 0}, {1, 4, 2, 0, 3}, {0, 1, 2, 3, 4, 5, 6}, {6, 5, 4, 3, 2, 1, 0}, nil, {1}} {
			mustFirst(t, wrong[0], wrong[1], list, nil)
		}
	}
}

func TestPromise89CountOrders(t *testing.T) {
	for m := 1; m <= 6; m++ {
		for rooms := 1; rooms <= 7; rooms++ {
			want := 0
			if rooms <= m {
				want = 1
			}
			mustOrders(t, 1, m, rooms, want)
			mustOrders(t, m, 1, rooms, want)
		}
	}
}

// TestCountsShareNothing checks that a permutation stays as it is, also behind its end, and that results are new.
func TestCountsShareNothing(t *testing.T) {
	for what, tell := range map[string]func(n, m int) ([]int, bool){
		"CountRooms": impl.CountRooms, "CountPlain": impl.CountPlain, "CountCut": impl.CountCut,
	} {
		first, _ := tell(2, 3)
		kept := slices.Clone(first)
		second, _ := tell(2, 3)
		for i := range second[:cap(second)] {
			second[:cap(second)][i] = 99
		}
		mustCounts(t, what, 2, 3)(first, true, kept)
		third, ok := tell(2, 3)
		mustCounts(t, what, 2, 3)(third, ok, kept)
	}
	whole := []int{1, 4, 2, 0, 3, 77, 78}
	perm := slices.Clone(whole)
	p, _ := impl.CountFirst(3, 3, perm[:5])
	p[0] = "x"
	mustFirst(t, 3, 3, perm[:5], []string{"aab", "cdb", "cee"})
	if !slices.Equal(perm, whole) {
		t.Errorf("the argument is now %v", perm)
	}
}
