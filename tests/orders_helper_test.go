package tests

import (
	"slices"
	"strconv"
	"testing"

	"loop.example/floorrooms/impl"
)

// isPlain tells by its letters whether a plan has no cross.
func isPlain(p []string) bool {
	return cornersOf(p, 4) == 0
}

// orderPlans returns plain plans for the promises about orders: all small ones, and many greater ones,
// among them those of which all or a part is stuck. As all pairs of rooms are asked, it has a third of the plans about cuts alone.
func orderPlans() [][]string {
	plans := append(somePlans(), []string{"aaaabc", "ddddbc", "efggbc", "efgghh", "efiiii", "efiiii"})
	for i, p := range cutPlans()[len(plans)-1:] {
		if i%3 == 0 {
			plans = append(plans, p)
		}
	}
	return slices.DeleteFunc(plans, func(p []string) bool { return !isPlain(p) })
}

// crossedPlans returns plans that are not plain, up to as many rows, columns and rooms as there may be.
func crossedPlans() [][]string {
	return slices.DeleteFunc(append(fillPlans(3, 3), append(scatter(400), nine)...), isPlain)
}

// notPlain returns lists of which nothing about orders is told.
func notPlain() [][]string {
	return append(noPlans(), crossedPlans()...)
}

// ledOf returns, for each room of a plain plan, to which ones it leads over walls of a way, 0 for upright ones or 1 for level ones.
func ledOf(p []string, way int) [][]bool {
	next := make([][]int, len(rectsOf(p)))
	for _, w := range linesOf(p) {
		if w[0] != way {
			continue
		}
		before, behind := besideLine(p, w)
		for _, a := range before {
			next[a] = append(next[a], behind...)
		}
	}
	led := make([][]bool, len(next))
	for a := range led {
		led[a] = make([]bool, len(next))
		var reach func(from int)
		reach = func(from int) {
			for _, b := range next[from] {
				if !led[a][b] {
					led[a][b] = true
					reach(b)
				}
			}
		}
		reach(a)
	}
	return led
}

// kindsOf returns, for each room of a plain plan, a text with the letter of its kind to each other one, and a point for itself.
func kindsOf(p []string) []string {
	left, above := ledOf(p, 0), ledOf(p, 1)
	var kinds []string
	for a := range left {
		text := ""
		for b := range left {
			for i, is := range []bool{left[a][b], left[b][a], above[a][b], above[b][a], a == b} {
				if is {
					text += string("lrud."[i])
				}
			}
		}
		kinds = append(kinds, text)
	}
	return kinds
}

// lineOf returns the rooms put in a line by two letters: a room is ahead of those to which its kind is one of both.
func lineOf(kinds []string, letters string) []int {
	line := make([]int, len(kinds))
	for a, text := range kinds {
		behind := 0
		for _, letter := range letters {
			behind += count([]string{text}, byte(letter))
		}
		line[len(kinds)-1-behind] = a
	}
	return line
}

// permOf returns the places in the first order of the rooms in the second order.
func permOf(p []string) []int {
	kinds := kindsOf(p)
	first := lineOf(kinds, "lu")
	var perm []int
	for _, room := range lineOf(kinds, "ld") {
		perm = append(perm, slices.Index(first, room))
	}
	return perm
}

// peeled returns the rooms of a plain plan in the order in which they go, if the one at the upper left corner is taken away again and again:
// those below it then grow up, if they are just as wide together, and otherwise those right of it grow to the left.
// That this is the first order is known, and needs no walls.
func peeled(p []string) []int {
	var cells [][]byte
	for _, row := range p {
		cells = append(cells, []byte(row))
	}
	var rooms []int
	for range rectsOf(p) {
		letter := cells[0][0]
		rooms = append(rooms, int(letter-'a'))
		high, wide := 0, 0
		for high < len(cells) && cells[high][0] == letter {
			high++
		}
		for wide < len(cells[0]) && cells[0][wide] == letter {
			wide++
		}
		growUp := high < len(cells) && (wide == len(cells[0]) || cells[high][wide-1] != cells[high][wide])
		for row := range high {
			for column := range wide {
				switch {
				case growUp:
					cells[row][column] = cells[high][column]
				case wide < len(cells[0]):
					cells[row][column] = cells[row][wide]
				}
			}
		}
	}
	return rooms
}

// backwards returns a list from its end on.
func backwards[T any](list []T) []T {
	list = slices.Clone(list)
	slices.Reverse(list)
	return list
}

// upsideDown returns the rows of a plan from below, with the letters as they are.
func upsideDown(p []string) []string {
	p = slices.Clone(p)
	slices.Reverse(p)
	return p
}

// longestPart returns the length of the longest part of a list, numbers left out, that ascends, by trying all parts.
func longestPart(list []int) int {
	most := 0
	for set := range 1 << len(list) {
		var part []int
		for i, x := range list {
			if set>>i&1 == 1 {
				part = append(part, x)
			}
		}
		// The numbers of a permutation are all different.
		if slices.IsSorted(part) {
			most = max(most, len(part))
		}
	}
	return most
}

// longestLed returns the greatest number of rooms each of which leads to the next one, by trying all first rooms.
func longestLed(led [][]bool) int {
	most := 0
	var from func(a, long int)
	from = func(a, long int) {
		most = max(most, long)
		for b, is := range led[a] {
			if is {
				from(b, long+1)
			}
		}
	}
	for a := range led {
		from(a, 1)
	}
	return most
}

// slidesOf returns, for each permutation as a text, the number of plain plans of some rows and columns that have it.
func slidesOf(high, wide int) map[string]int {
	slides := map[string]int{}
	for _, p := range fillPlans(high, wide) {
		if isPlain(p) {
			slides[listText(permOf(p))]++
		}
	}
	return slides
}

// listText returns a list of numbers as a text.
func listText(list []int) string {
	text := ""
	for _, x := range list {
		text += strconv.Itoa(x) + " "
	}
	return text
}

// smallSizes returns all numbers of rows and columns with at most nine cells.
func smallSizes() [][2]int {
	var sizes [][2]int
	for high := 1; high <= 6; high++ {
		for wide := 1; wide <= 6; wide++ {
			if high*wide <= 9 {
				sizes = append(sizes, [2]int{high, wide})
			}
		}
	}
	return sizes
}

// mustKind checks OrderKind, OrderLeft and OrderAbove of two rooms; the kind is one of the four letters, or empty if nothing is told.
func mustKind(t *testing.T, p []string, a, b int, want string) {
	t.Helper()
	kind, ok := impl.OrderKind(p, a, b)
	if kind != want || ok != (want != "") {
		t.Fatalf("OrderKind of %q, %d, %d: %q, %v, not %q", p, a, b, kind, ok, want)
	}
	if left := impl.OrderLeft(p, a, b); left != (want == "l") {
		t.Fatalf("OrderLeft of %q, %d, %d: %v, and the kind is %q", p, a, b, left, want)
	}
	if above := impl.OrderAbove(p, a, b); above != (want == "u") {
		t.Fatalf("OrderAbove of %q, %d, %d: %v, and the kind is %q", p, a, b, above, want)
	}
}

// mustLong checks OrderLong.
func mustLong(t *testing.T, p []string, left, above int) {
	t.Helper()
	a, b, ok := impl.OrderLong(p)
	if !ok || a != left || b != above {
		t.Fatalf("OrderLong of %q: %d, %d, %v, not %d and %d", p, a, b, ok, left, above)
	}
}
