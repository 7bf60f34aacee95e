package tests

import (
	"slices"
	"testing"

	"loop.example/floorrooms/impl"
)

// permsOf returns all permutations of so many numbers, by putting the greatest number at each place of those of one less.
func permsOf(n int) [][]int {
	perms := [][]int{{}}
	for greater := range n {
		var next [][]int
		for _, p := range perms {
			for at := range len(p) + 1 {
				next = append(next, slices.Insert(slices.Clone(p), at, greater))
			}
		}
		perms = next
	}
	return perms
}

// allPerms returns all permutations of 1 to 7 numbers.
func allPerms() [][]int {
	var perms [][]int
	for n := 1; n <= 7; n++ {
		perms = append(perms, permsOf(n)...)
	}
	return perms
}

// isPerm tells by the document whether a list is a permutation.
func isPerm(list []int) bool {
	if len(list) < 1 || len(list) > 7 {
		return false
	}
	for x := range list {
		if !slices.Contains(list, x) {
			return false
		}
	}
	return true
}

// isFair tells by the document whether a permutation is fair, place by place.
func isFair(p []int) bool {
	for i := range p {
		for j := i + 1; j < len(p); j++ {
			for k := j + 2; k < len(p); k++ {
				all := []int{p[i], p[j], p[j+1], p[k]}
				least, most := slices.Min(all), slices.Max(all)
				if p[j] == most && p[j+1] == least && p[i] < p[k] || p[j] == least && p[j+1] == most && p[i] > p[k] {
					return false
				}
			}
		}
	}
	return true
}

// isLoose tells by the document whether a permutation is loose, by all sets of four places.
func isLoose(p []int) bool {
	for set := range 1 << len(p) {
		var part []int
		for i, x := range p {
			if set>>i&1 == 1 {
				part = append(part, x)
			}
		}
		if len(part) != 4 {
			continue
		}
		ranks := 0
		for _, x := range part {
			ranks = 10*ranks + slices.Index(sorted(part), x) + 1
		}
		if ranks == 2413 || ranks == 3142 {
			return false
		}
	}
	return true
}

// fairGrown returns all fair permutations of so many numbers as texts, as they are known to grow:
// the greatest number comes just ahead of one that is greater than all ahead of it, or just behind one that is greater than all behind it.
func fairGrown(n int) map[string]bool {
	grown := [][]int{{0}}
	for greater := 1; greater < n; greater++ {
		var next [][]int
		for _, p := range grown {
			for at := range len(p) + 1 {
				ahead := at < len(p) && (at == 0 || slices.Max(p[:at]) < p[at])
				behind := at > 0 && (at == len(p) || slices.Max(p[at:]) < p[at-1])
				if ahead || behind {
					next = append(next, slices.Insert(slices.Clone(p), at, greater))
				}
			}
		}
		grown = next
	}
	texts := map[string]bool{}
	for _, p := range grown {
		texts[listText(p)] = true
	}
	return texts
}

// fallsApart reports whether numbers are known to be loose: one alone is, and so are those of which a beginning, not all,
// has the least or the greatest numbers alone, if this and what is behind it are.
func fallsApart(p []int) bool {
	if len(p) == 1 {
		return true
	}
	for at := 1; at < len(p); at++ {
		first, second := p[:at], p[at:]
		if slices.Max(first) < slices.Min(second) || slices.Min(first) > slices.Max(second) {
			return fallsApart(first) && fallsApart(second)
		}
	}
	return false
}

// exchanged returns each number's place at this number.
func exchanged(p []int) []int {
	var places []int
	for x := range p {
		places = append(places, slices.Index(p, x))
	}
	return places
}

// greaterBy returns a list with all its numbers greater by as many.
func greaterBy(list []int, by int) []int {
	var out []int
	for _, x := range list {
		out = append(out, x+by)
	}
	return out
}

// noPerms returns lists that are no permutations.
func noPerms() [][]int {
	lists := [][]int{
		nil, {}, {1}, {2}, {7},
		{0, 0}, {1, 1}, {1, 2}, {0, 2}, {2, 0}, {2, 2}, {0, -1}, {-1, 0}, {-1, -1},
		{0, 1, 1}, {0, 0, 2}, {1, 2, 3}, {3, 2, 1}, {0, 1, 3}, {0, 2, 2}, {2, 0, 2}, {-1, 0, 1}, {1, 0, -1},
		// Numbers twice that together are as many as all numbers.
		{1, 1, 1}, {0, 0, 3, 3}, {0, 2, 2, 2}, {1, 1, 2, 2},
		{1, 4, 2, 0, 4}, {1, 4, 2, 1, 3}, {1, 4, 2, 5, 3}, {1, 5, 2, 0, 3}, {1, 4, -2, 0, 3}, {2, 5, 3, 1, 4},
		{0, 1, 2, 3, 4, 5, 5}, {0, 0, 1, 2, 3, 4, 5}, {1, 2, 3, 4, 5, 6, 7}, {0, 1, 2, 3, 4, 5, 7}, {6, 5, 4, 3, 2, 1, -1}, {0, 0, 0, 0, 0, 0, 0},
		{0, 1, 2, 3, 4, 5, 6, 7}, {7, 6, 5, 4, 3, 2, 1, 0}, {0, 1, 2, 3, 4, 5, 6, 0}, {0, 1, 2, 3, 4, 5, 6, 6}, {1, 4, 2, 0, 3, 5, 7, 6},
		{0, 1, 2, 3, 4, 5, 6, -1}, {0, 1, 2, 3, 4, 5, 6, 7, 8},
		make([]int, 1000), greaterBy(permsOf(3)[0], 1<<32), slices.Repeat([]int{0, 1, 2, 3, 4, 5, 6}, 2),
	}
	for _, far := range farNumbers {
		lists = append(lists, []int{far}, []int{0, far}, []int{far, 0}, []int{1, 3, far, 2}, []int{6, 5, 4, 3, 2, 1, far})
	}
	return lists
}

// noLengths are numbers of which no permutation has so many.
var noLengths = append([]int{0, 8, 9}, farNumbers...)

// permPairs calls a function for all two permutations with at most 7 numbers together.
func permPairs(look func(p, q []int)) {
	for n := 1; n < 7; n++ {
		for m := 1; n+m <= 7; m++ {
			for _, p := range permsOf(n) {
				for _, q := range permsOf(m) {
					look(p, q)
				}
			}
		}
	}
}

// mustPerm takes a permutation that a function returned for some lists and holds it against what it must be.
func mustPerm(t *testing.T, what string, lists ...[]int) func(got []int, ok bool, want []int) {
	return func(got []int, ok bool, want []int) {
		t.Helper()
		if !ok || !slices.Equal(got, want) {
			t.Fatalf("%s of %v: %v, %v, not %v", what, lists, got, ok, want)
		}
	}
}

// mustFailWithPerm checks that a function that returns a permutation failed.
func mustFailWithPerm(t *testing.T, what string, lists ...[]int) func(got []int, ok bool) {
	return func(got []int, ok bool) {
		t.Helper()
		if ok || len(got) != 0 {
			t.Fatalf("%s of %v: %v, %v, not a failure", what, lists, got, ok)
		}
	}
}

// mustBeLike checks what PermIn, PermFair and PermLoose report of a list.
func mustBeLike(t *testing.T, p []int, in, fair, loose bool) {
	t.Helper()
	if is := impl.PermIn(p); is != in {
		t.Fatalf("PermIn of %v: %v", p, is)
	}
	if is := impl.PermFair(p); is != fair {
		t.Fatalf("PermFair of %v: %v", p, is)
	}
	if is := impl.PermLoose(p); is != loose {
		t.Fatalf("PermLoose of %v: %v", p, is)
	}
}

// mustCount checks a function that returns a number for 1 to 7 numbers, and that it fails for others.
func mustCount(t *testing.T, what string, tell func(n int) (int, bool), want []int) {
	t.Helper()
	for i, many := range want {
		if got, ok := tell(i + 1); !ok || got != many {
			t.Errorf("%s of %d: %d, %v, not %d", what, i+1, got, ok, many)
		}
	}
	for _, n := range noLengths {
		if got, ok := tell(n); ok || got != 0 {
			t.Errorf("%s of %d: %d, %v, not a failure", what, n, got, ok)
		}
	}
}
