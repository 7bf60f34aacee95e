package tests

import (
	"slices"
	"testing"

	"loop.example/floorrooms/impl"
)

// permCase is what is known by hand of a permutation.
type permCase struct {
	perm        []int
	fair, loose bool
	back, other []int
}

var permCases = []permCase{
	{[]int{0}, true, true, []int{0}, []int{0}},
	{[]int{0, 1}, true, true, []int{1, 0}, []int{0, 1}},
	{[]int{1, 0}, true, true, []int{0, 1}, []int{1, 0}},
	{[]int{2, 0, 1}, true, true, []int{1, 0, 2}, []int{1, 2, 0}},
	{[]int{0, 1, 2, 3}, true, true, []int{3, 2, 1, 0}, []int{0, 1, 2, 3}},
	// The least ones that are neither fair nor loose.
	{[]int{1, 3, 0, 2}, false, false, []int{2, 0, 3, 1}, []int{2, 0, 3, 1}},
	{[]int{2, 0, 3, 1}, false, false, []int{1, 3, 0, 2}, []int{1, 3, 0, 2}},
	// The greatest and the least number are side by side, and the others as they may be.
	{[]int{2, 3, 0, 1}, true, true, []int{1, 0, 3, 2}, []int{2, 3, 0, 1}},
	{[]int{1, 0, 3, 2}, true, true, []int{2, 3, 0, 1}, []int{1, 0, 3, 2}},
	// Those of both wheels are fair and not loose: 4 and 0, or 0 and 4, are not side by side.
	{[]int{1, 4, 2, 0, 3}, true, false, []int{3, 0, 2, 4, 1}, []int{3, 0, 2, 4, 1}},
	{[]int{3, 0, 2, 4, 1}, true, false, []int{1, 4, 2, 0, 3}, []int{1, 4, 2, 0, 3}},
	// The first and the last one of the four places are not beside the others.
	{[]int{1, 2, 4, 0, 3}, false, false, []int{3, 0, 4, 2, 1}, []int{3, 0, 1, 4, 2}},
	{[]int{1, 4, 0, 2, 3}, false, false, []int{3, 2, 0, 4, 1}, []int{2, 0, 3, 4, 1}},
	{[]int{2, 3, 1, 6, 0, 4, 5}, false, false, []int{5, 4, 0, 6, 1, 3, 2}, []int{4, 2, 0, 1, 5, 6, 3}},
	// The greatest and the least of the four are not those of all.
	{[]int{0, 3, 5, 2, 4, 1, 6}, false, false, []int{6, 1, 4, 2, 5, 3, 0}, []int{0, 5, 3, 1, 4, 2, 6}},
	{[]int{6, 1, 3, 0, 2, 4, 5}, false, false, []int{5, 4, 2, 0, 3, 1, 6}, []int{3, 1, 4, 2, 5, 6, 0}},
	// Seven numbers.
	{[]int{0, 1, 2, 3, 4, 5, 6}, true, true, []int{6, 5, 4, 3, 2, 1, 0}, []int{0, 1, 2, 3, 4, 5, 6}},
	{[]int{4, 6, 5, 1, 0, 2, 3}, true, true, []int{3, 2, 0, 1, 5, 6, 4}, []int{4, 3, 5, 6, 0, 2, 1}},
	{[]int{1, 4, 2, 0, 3, 6, 5}, true, false, []int{5, 6, 3, 0, 2, 4, 1}, []int{3, 0, 2, 4, 1, 6, 5}},
}

func TestPermsByHand(t *testing.T) {
	for _, c := range permCases {
		mustBeLike(t, c.perm, true, c.fair, c.loose)
		p, ok := impl.PermBack(c.perm)
		mustPerm(t, "PermBack", c.perm)(p, ok, c.back)
		p, ok = impl.PermOther(c.perm)
		mustPerm(t, "PermOther", c.perm)(p, ok, c.other)
	}
}

func TestHelperPerms(t *testing.T) {
	for _, c := range permCases {
		p := c.perm
		if !isPerm(p) || isFair(p) != c.fair || isLoose(p) != c.loose ||
			!slices.Equal(backwards(p), c.back) || !slices.Equal(exchanged(p), c.other) {
			t.Errorf("%v: fair %v, loose %v, %v, %v", p, isFair(p), isLoose(p), backwards(p), exchanged(p))
		}
	}
	for _, p := range noPerms() {
		if isPerm(p) {
			t.Errorf("%v is a permutation", p)
		}
	}
	for n := 1; n <= 7; n++ {
		grown, seen := fairGrown(n), map[string]bool{}
		for _, p := range permsOf(n) {
			seen[listText(p)] = true
			if isFair(p) != grown[listText(p)] || isLoose(p) != fallsApart(p) {
				t.Fatalf("%v: fair %v, loose %v", p, isFair(p), isLoose(p))
			}
		}
		if many := []int{1, 2, 6, 24, 120, 720, 5040}[n-1]; len(seen) != many {
			t.Errorf("there are %d permutations of %d numbers", len(seen), n)
		}
	}
}

func TestPromise54OrderPerm(t *testing.T) {
	loose, stuck := 0, 0
	for _, p := range orderPlans() {
		perm, _ := impl.OrderPerm(p)
		if len(perm) > 7 {
			mustBeLike(t, perm, false, false, false)
			continue
		}
		is := impl.CutIs(p)
		mustBeLike(t, perm, true, true, is)
		if is {
			loose++
		} else {
			stuck++
		}
	}
	if loose < 1000 || stuck < 100 {
		t.Errorf("only %d plans are cuttable, and %d are not", loose, stuck)
	}
}

// TestPromise54AllPerms checks that all fair permutations, and no others, come from plain plans:
// those of up to four rooms from plans of four rows and columns.
func TestPromise54AllPerms(t *testing.T) {
	seen := map[string]bool{}
	for _, p := range fillPlans(4, 4) {
		if len(rectsOf(p)) <= 4 && isPlain(p) {
			perm, _ := impl.OrderPerm(p)
			seen[listText(perm)] = true
		}
	}
	for n := 1; n <= 4; n++ {
		for _, p := range permsOf(n) {
			if impl.PermFair(p) != seen[listText(p)] {
				t.Errorf("PermFair of %v: %v", p, impl.PermFair(p))
			}
		}
	}
}

func TestPromise55PermIn(t *testing.T) {
	for _, p := range allPerms() {
		if !impl.PermIn(p) {
			t.Fatalf("PermIn of %v does not hold", p)
		}
		for what, tell := range map[string]func([]int) ([]int, bool){"PermBack": impl.PermBack, "PermOther": impl.PermOther} {
			q, ok := tell(p)
			if !ok || !impl.PermIn(q) || !slices.Equal(sorted(q), sorted(p)) {
				t.Fatalf("%s of %v: %v, %v", what, p, q, ok)
			}
		}
		for i, x := range sorted(p) {
			if x != i {
				t.Fatalf("PermIn of %v holds", p)
			}
		}
	}
}

// TestPromise55NoPerms checks lists that are no permutations, among them all short ones.
func TestPromise55NoPerms(t *testing.T) {
	for _, p := range noPerms() {
		mustBeLike(t, p, false, false, false)
		q, ok := impl.PermBack(p)
		mustFailWithPerm(t, "PermBack", p)(q, ok)
		q, ok = impl.PermOther(p)
		mustFailWithPerm(t, "PermOther", p)(q, ok)
	}
	var list []int
	perms := 0
	var look func(left int)
	look = func(left int) {
		in := isPerm(list)
		mustBeLike(t, list, in, in && isFair(list), in && isLoose(list))
		if in {
			perms++
		}
		if left == 0 {
			return
		}
		for x := -1; x <= 5; x++ {
			list = append(list, x)
			look(left - 1)
			list = list[:len(list)-1]
		}
	}
	look(5)
	if perms != 1+2+6+24+120 {
		t.Errorf("%d lists are permutations", perms)
	}
}

func TestPromise56PermFair(t *testing.T) {
	for _, p := range allPerms() {
		back, _ := impl.PermBack(p)
		other, _ := impl.PermOther(p)
		for _, q := range [][]int{p, back, other} {
			if is := impl.PermFair(q); is != isFair(p) {
				t.Fatalf("PermFair of %v: %v, and %v is it or leads to it", q, is, p)
			}
		}
	}
}

func TestPromise57PermLoose(t *testing.T) {
	between := 0
	for _, p := range allPerms() {
		back, _ := impl.PermBack(p)
		other, _ := impl.PermOther(p)
		for _, q := range [][]int{p, back, other} {
			is := impl.PermLoose(q)
			if is != isLoose(p) {
				t.Fatalf("PermLoose of %v: %v, and %v is it or leads to it", q, is, p)
			}
			if is && !impl.PermFair(q) {
				t.Fatalf("PermLoose of %v holds, and PermFair does not", q)
			}
		}
		if impl.PermFair(p) && !impl.PermLoose(p) {
			between++
		}
	}
	if between != 2+28+268 {
		t.Errorf("%d permutations are fair and not loose", between)
	}
}

func TestPromise58PermBack(t *testing.T) {
	for _, p := range allPerms() {
		q, ok := impl.PermBack(p)
		mustPerm(t, "PermBack", p)(q, ok, backwards(p))
		again, ok := impl.PermBack(q)
		mustPerm(t, "PermBack", q)(again, ok, p)
	}
}

func TestPromise59PermOther(t *testing.T) {
	for _, p := range allPerms() {
		q, ok := impl.PermOther(p)
		mustPerm(t, "PermOther", p)(q, ok, exchanged(p))
		for x, place := range q {
			if p[place] != x {
				t.Fatalf("PermOther of %v: %v, and %d is not at %d", p, q, x, place)
			}
		}
		again, ok := impl.PermOther(q)
		mustPerm(t, "PermOther", q)(again, ok, p)
	}
}

// joinCases are two permutations, both aside and both under each other, by hand.
var joinCases = [][4][]int{
	{{0}, {0}, {0, 1}, {1, 0}},
	{{1, 0}, {0}, {1, 0, 2}, {2, 1, 0}},
	{{0}, {1, 0}, {0, 2, 1}, {2, 1, 0}},
	{{0, 1}, {1, 0}, {0, 1, 3, 2}, {3, 2, 0, 1}},
	{{1, 0}, {1, 2, 0}, {1, 0, 3, 4, 2}, {3, 4, 2, 1, 0}},
	{{1, 4, 2, 0, 3}, {1, 0}, {1, 4, 2, 0, 3, 6, 5}, {6, 5, 1, 4, 2, 0, 3}},
	{{1, 0}, {1, 4, 2, 0, 3}, {1, 0, 3, 6, 4, 2, 5}, {3, 6, 4, 2, 5, 1, 0}},
	{{0}, {5, 3, 4, 0, 2, 1}, {0, 6, 4, 5, 1, 3, 2}, {6, 4, 5, 1, 3, 2, 0}},
	{{5, 3, 4, 0, 2, 1}, {0}, {5, 3, 4, 0, 2, 1, 6}, {6, 5, 3, 4, 0, 2, 1}},
	{{2, 0, 1}, {2, 0, 3, 1}, {2, 0, 1, 5, 3, 6, 4}, {5, 3, 6, 4, 2, 0, 1}},
}

func TestPermsJoinedByHand(t *testing.T) {
	for _, c := range joinCases {
		got, ok := impl.PermAside(c[0], c[1])
		mustPerm(t, "PermAside", c[0], c[1])(got, ok, c[2])
		got, ok = impl.PermUnder(c[0], c[1])
		mustPerm(t, "PermUnder", c[0], c[1])(got, ok, c[3])
	}
}

func TestPromise60PermAside(t *testing.T) {
	permPairs(func(p, q []int) {
		got, ok := impl.PermAside(p, q)
		mustPerm(t, "PermAside", p, q)(got, ok, slices.Concat(p, greaterBy(q, len(p))))
		mustBeLike(t, got, true, isFair(p) && isFair(q), isLoose(p) && isLoose(q))
		if impl.PermFair(got) != (impl.PermFair(p) && impl.PermFair(q)) || impl.PermLoose(got) != (impl.PermLoose(p) && impl.PermLoose(q)) {
			t.Fatalf("PermAside of %v and %v: %v is not fair or not loose as both are", p, q, got)
		}
	})
	mustNotJoin(t, "PermAside", impl.PermAside)
}

func TestPromise61PermUnder(t *testing.T) {
	permPairs(func(p, q []int) {
		got, ok := impl.PermUnder(p, q)
		mustPerm(t, "PermUnder", p, q)(got, ok, slices.Concat(greaterBy(q, len(p)), p))
		back, ok := impl.PermBack(got)
		first, _ := impl.PermBack(p)
		second, _ := impl.PermBack(q)
		aside, _ := impl.PermAside(first, second)
		mustPerm(t, "PermBack", got)(back, ok, aside)
	})
	mustNotJoin(t, "PermUnder", impl.PermUnder)
}

// mustNotJoin checks that a function puts no permutations together that have more than seven numbers, and none that is none.
func mustNotJoin(t *testing.T, what string, join func(p, q []int) ([]int, bool)) {
	t.Helper()
	for n := 1; n <= 7; n++ {
		for m := 8 - n; m <= 7; m++ {
			up, down := permsOf(n), permsOf(m)
			p, q := up[0], down[len(down)-1]
			got, ok := join(p, q)
			mustFailWithPerm(t, what, p, q)(got, ok)
			got, ok = join(q, p)
			mustFailWithPerm(t, what, q, p)(got, ok)
		}
	}
	for _, p := range noPerms() {
		for _, q := range [][]int{{0}, {1, 0}, {0, 1, 2, 3, 4, 5, 6}, {}, {1}, p} {
			got, ok := join(p, q)
			mustFailWithPerm(t, what, p, q)(got, ok)
			got, ok = join(q, p)
			mustFailWithPerm(t, what, q, p)(got, ok)
		}
	}
}

// The numbers of fair and of loose permutations of 1 to 7 numbers, as they are known.
var (
	fairCounts  = []int{1, 2, 6, 22, 92, 422, 2074}
	looseCounts = []int{1, 2, 6, 22, 90, 394, 1806}
)

func TestPromise62PermFairCount(t *testing.T) {
	mustCount(t, "PermFairCount", impl.PermFairCount, fairCounts)
	for n := 1; n <= 7; n++ {
		many, _ := impl.PermFairCount(n)
		sum, _ := impl.PermFairSum(n)
		if loose, _ := impl.PermLooseCount(n); many != sum || many < loose || many != len(fairGrown(n)) {
			t.Errorf("PermFairCount of %d: %d, PermFairSum: %d, PermLooseCount: %d", n, many, sum, loose)
		}
	}
}

func TestPromise63PermFairSum(t *testing.T) {
	mustCount(t, "PermFairSum", impl.PermFairSum, fairCounts)
	for n := 2; n <= 7; n++ {
		less, _ := impl.PermFairSum(n - 1)
		if sum, _ := impl.PermFairSum(n); sum <= less {
			t.Errorf("PermFairSum of %d: %d, and of one less: %d", n, sum, less)
		}
	}
}

func TestPromise64PermLooseCount(t *testing.T) {
	mustCount(t, "PermLooseCount", impl.PermLooseCount, looseCounts)
	for n := 1; n <= 7; n++ {
		known := 0
		for _, p := range permsOf(n) {
			if fallsApart(p) {
				known++
			}
		}
		many, _ := impl.PermLooseCount(n)
		if sum, _ := impl.PermLooseSum(n); many != sum || many != known {
			t.Errorf("PermLooseCount of %d: %d, PermLooseSum: %d, and %d are known", n, many, sum, known)
		}
	}
}

func TestPromise65PermLooseSum(t *testing.T) {
	mustCount(t, "PermLooseSum", impl.PermLooseSum, looseCounts)
	for n := 1; n <= 7; n++ {
		if sum, _ := impl.PermLooseSum(n); (sum == 1) != (n == 1) || n > 1 && sum%2 != 0 {
			t.Errorf("PermLooseSum of %d: %d", n, sum)
		}
	}
}

// TestPermsShareNothing checks that arguments stay as they are, also behind their ends, and that results are new.
func TestPermsShareNothing(t *testing.T) {
	whole := []int{2, 0, 3, 1, 9, 8, 7, 6}
	list := slices.Clone(whole)
	p, q := list[:4], list[1:2]
	for what, tell := range map[string]func() ([]int, bool){
		"PermBack":  func() ([]int, bool) { return impl.PermBack(p) },
		"PermOther": func() ([]int, bool) { return impl.PermOther(p) },
		"PermAside": func() ([]int, bool) { return impl.PermAside(p, q) },
		"PermUnder": func() ([]int, bool) { return impl.PermUnder(p, q) },
	} {
		first, _ := tell()
		kept := slices.Clone(first)
		second, _ := tell()
		for i := range second[:cap(second)] {
			second[:cap(second)][i] = 99
		}
		if !slices.Equal(first, kept) {
			t.Errorf("%s shares memory with an earlier result: %v", what, first)
		}
		third, ok := tell()
		mustPerm(t, what, p, q)(third, ok, kept)
	}
	mustBeLike(t, p, true, false, false)
	if !slices.Equal(list, whole) {
		t.Errorf("the argument is now %v", list)
	}
}
