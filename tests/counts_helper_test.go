package tests

import (
	"cmp"
	"slices"
	"sync"
	"testing"

	"loop.example/floorrooms/impl"
)

// The helpers here do not lay rooms: they draw all sides that cells may have and keep what is a plan.

// noFrames are rows and columns of which no plans are asked: each number wrong alone with all good ones, both wrong,
// also with good products, and both good with too many cells.
func noFrames() [][2]int {
	var frames [][2]int
	for _, wrong := range append([]int{0, 7, 8, 9, -3, -6, -7}, farNumbers...) {
		for good := 1; good <= 6; good++ {
			frames = append(frames, [2]int{wrong, good}, [2]int{good, wrong})
		}
		frames = append(frames, [2]int{wrong, wrong}, [2]int{wrong, 0}, [2]int{0, wrong}, [2]int{wrong, -1}, [2]int{-1, wrong})
	}
	for high := 1; high <= 6; high++ {
		for wide := 1; wide <= 6; wide++ {
			if high*wide > 9 {
				frames = append(frames, [2]int{high, wide})
			}
		}
	}
	// Products that wrap around, some of them to 0 or 2.
	return append(frames, [2]int{1 << 32, 1 << 32}, [2]int{1 << 62, 4}, [2]int{4, 1 << 62}, [2]int{3, 6148914691236517206}, [2]int{-1 << 63, 2})
}

// sidedPlans returns all plans of some rows and columns, by trying all sets of sides between two cells:
// those without one between them are of one room, and there is no side within a room.
func sidedPlans(high, wide int) [][]string {
	var sides [][2]int
	for at := range high * wide {
		if at%wide+1 < wide {
			sides = append(sides, [2]int{at, at + 1})
		}
		if at+wide < high*wide {
			sides = append(sides, [2]int{at, at + wide})
		}
	}
	var plans [][]string
	for set := range 1 << len(sides) {
		rooms := make([]byte, high*wide)
		for at := range rooms {
			rooms[at] = byte(at)
		}
		for i, s := range sides {
			if set>>i&1 == 0 {
				join(rooms, rooms[s[0]], rooms[s[1]])
			}
		}
		within := false
		for i, s := range sides {
			within = within || set>>i&1 == 1 && rooms[s[0]] == rooms[s[1]]
		}
		p := rename(rowsOf(rooms, wide))
		if !within && isPlan(p) {
			plans = append(plans, p)
		}
	}
	return plans
}

// join makes two rooms one.
func join(rooms []byte, a, b byte) {
	for at, room := range rooms {
		if room == b {
			rooms[at] = a
		}
	}
}

// asked is what is to be told of all plans of some rows and columns: by rooms from 0 on, how many plans there are and how many different
// permutations of plain ones; and the first plain plan of each permutation, which is told as a text.
type asked struct {
	rooms, plain, cut, orders []int
	first                     map[string][]string
}

// askAll asks all plans of some rows and columns.
func askAll(high, wide int) asked {
	plans := sidedPlans(high, wide)
	slices.SortFunc(plans, earlier)
	many := high*wide + 1
	all := asked{make([]int, many), make([]int, many), make([]int, many), make([]int, many), map[string][]string{}}
	for _, p := range plans {
		rooms := len(rectsOf(p))
		all.rooms[rooms]++
		if stuckIn(p, allOf(p)) == nil {
			all.cut[rooms]++
		}
		if !isPlain(p) {
			continue
		}
		all.plain[rooms]++
		perm := listText(permOf(p))
		if all.first[perm] == nil {
			all.orders[rooms]++
			all.first[perm] = p
		}
	}
	return all
}

// earlier compares plans by the widths of their first rooms, then by their heights, then by the next rooms.
func earlier(p, q []string) int {
	return slices.CompareFunc(rectsOf(p), rectsOf(q), func(a, b rect) int {
		return cmp.Or(cmp.Compare(a.wide, b.wide), cmp.Compare(a.high, b.high))
	})
}

// askedOf returns askAll of all rows and columns with at most nine cells. It is made once.
var askedOf = sync.OnceValue(func() map[[2]int]asked {
	all := map[[2]int]asked{}
	for _, size := range smallSizes() {
		all[size] = askAll(size[0], size[1])
	}
	return all
})

// mustCounts takes the numbers that a function returned for some rows and columns and holds them against what they must be.
func mustCounts(t *testing.T, what string, n, m int) func(got []int, ok bool, want []int) {
	return func(got []int, ok bool, want []int) {
		t.Helper()
		if !ok || !slices.Equal(got, want) {
			t.Fatalf("%s of %d, %d: %v, %v, not %v", what, n, m, got, ok, want)
		}
	}
}

// mustOrders checks CountOrders.
func mustOrders(t *testing.T, n, m, rooms, want int) {
	t.Helper()
	if got, ok := impl.CountOrders(n, m, rooms); !ok || got != want {
		t.Fatalf("CountOrders of %d, %d, %d: %d, %v, not %d", n, m, rooms, got, ok, want)
	}
}

// mustHaveNoOrders checks that CountOrders fails.
func mustHaveNoOrders(t *testing.T, n, m, rooms int) {
	t.Helper()
	if got, ok := impl.CountOrders(n, m, rooms); ok || got != 0 {
		t.Fatalf("CountOrders of %d, %d, %d: %d, %v, not a failure", n, m, rooms, got, ok)
	}
}

// mustFirst checks CountFirst, which fails if the plan is none.
func mustFirst(t *testing.T, n, m int, perm []int, want []string) {
	t.Helper()
	if got, ok := impl.CountFirst(n, m, perm); ok != (want != nil) || !slices.Equal(got, want) {
		t.Fatalf("CountFirst of %d, %d, %v: %q, %v, not %q", n, m, perm, got, ok, want)
	}
}
