package tests

import (
	"slices"
	"strings"
	"testing"

	"loop.example/floorrooms/impl"
)

// needsFor returns lists of needs for so many rooms: all 1, all 9, one 9 among others of 1, ascending and descending ones, and some without order.
func needsFor(many int) [][]int {
	lists := [][]int{slices.Repeat([]int{1}, many), slices.Repeat([]int{9}, many)}
	var up, down []int
	for room := range many {
		up, down = append(up, 1+room), append(down, 9-room)
	}
	lists = append(lists, up, down)
	for room := 0; room < many; room += 3 {
		one := slices.Repeat([]int{1}, many)
		one[room] = 9
		lists = append(lists, one)
	}
	state := uint32(many)
	for range 3 {
		var list []int
		for range many {
			state = state*1664525 + 1013904223
			list = append(list, 1+int(state>>8)%9)
		}
		lists = append(lists, list)
	}
	return lists
}

// noNeeds returns lists that are none of needs for so many rooms: too short ones, too long ones, and such with a number that no room may need.
func noNeeds(many int) [][]int {
	good := needsFor(many)[2]
	lists := [][]int{nil, {}, good[:many-1], good[1:], append(slices.Clone(good), 1), append([]int{9}, good...), slices.Repeat(good, 2), slices.Repeat([]int{1}, 1000)}
	for _, wrong := range append([]int{0, -10}, farNumbers...) {
		for room := range many {
			list := slices.Clone(good)
			list[room] = wrong
			lists = append(lists, list)
		}
		lists = append(lists, slices.Repeat([]int{wrong}, many), append(slices.Clone(good), wrong))
	}
	return lists
}

// needsOfNone returns lists of needs of all lengths, for plans of which nothing about needs is told.
func needsOfNone() [][]int {
	lists := [][]int{nil}
	for many := 1; many <= 10; many++ {
		lists = append(lists, slices.Repeat([]int{1}, many))
	}
	return lists
}

// drawingsOf calls a function for many plans, each with some lists of needs.
func drawingsOf(look func(p []string, needs []int)) {
	for _, p := range orderPlans() {
		for _, needs := range needsFor(len(rectsOf(p))) {
			look(p, needs)
		}
	}
}

// pushed draws a plan over walls of a way with all rooms as near to the side ahead as they may lie, but one, which lies so far from it at least:
// each room is pushed behind those ahead of it until none lies in the way of another one.
func pushed(led [][]bool, needs []int, room, far int) []int {
	places := make([]int, len(needs))
	places[room] = far
	for again := true; again; {
		again = false
		for a := range led {
			for b, is := range led[a] {
				if is && places[a]+needs[a] > places[b] {
					places[b] = places[a] + needs[a]
					again = true
				}
			}
		}
	}
	return places
}

// endOf returns how far the rooms reach that lie at some places.
func endOf(places, needs []int) int {
	end := 0
	for room, at := range places {
		end = max(end, at+needs[room])
	}
	return end
}

// slackOf returns, for each room, how much further it may be pushed without a greater end of all, by pushing it one by one.
func slackOf(led [][]bool, needs []int) []int {
	places := pushed(led, needs, 0, 0)
	end := endOf(places, needs)
	var slack []int
	for room, at := range places {
		more := 0
		for endOf(pushed(led, needs, room, at+more+1), needs) == end {
			more++
		}
		slack = append(slack, more)
	}
	return slack
}

// greatestSum returns the greatest sum of needs of rooms each of which leads to the next one, by trying all first rooms.
func greatestSum(led [][]bool, needs []int) int {
	most := 0
	var from func(a, sum int)
	from = func(a, sum int) {
		sum += needs[a]
		most = max(most, sum)
		for b, is := range led[a] {
			if is {
				from(b, sum)
			}
		}
	}
	for a := range led {
		from(a, 0)
	}
	return most
}

// widthAlong returns the least width that a cut text tells, and what is left of the text behind it.
func widthAlong(text string, needs []int) (int, string) {
	letter, rest := text[0], text[1:]
	if 'A' <= letter && letter <= 'I' {
		return needs[letter-'A'], rest
	}
	ahead, rest := widthAlong(rest, needs)
	behind, rest := widthAlong(rest, needs)
	if letter == 'v' {
		return ahead + behind, rest
	}
	return max(ahead, behind), rest
}

// cutWidths returns the least widths along all ways to cut a plan, and none if there is no way.
func cutWidths(p []string, needs []int) []int {
	var widths []int
	for _, f := range fallsOf(p, allOf(p)) {
		width, _ := widthAlong(f.text, needs)
		widths = append(widths, width)
	}
	return slices.Compact(sorted(widths))
}

// transNeeds returns the needs of a plan's rooms in the order that the rooms have when rows and columns are exchanged.
func transNeeds(p []string, needs []int) []int {
	var out []int
	letters := ""
	for column := range p[0] {
		for row := range p {
			if letter := p[row][column]; !strings.Contains(letters, string(letter)) {
				letters += string(letter)
				out = append(out, needs[letter-'a'])
			}
		}
	}
	return out
}

// sum returns all numbers of a list together.
func sum(list []int) int {
	n := 0
	for _, x := range list {
		n += x
	}
	return n
}

// mustSize takes a number that a function returned for a plan and needs and holds it against what it must be.
func mustSize(t *testing.T, what string, p []string, needs ...[]int) func(got int, ok bool, want int) {
	return func(got int, ok bool, want int) {
		t.Helper()
		if !ok || got != want {
			t.Fatalf("%s of %q with %v: %d, %v, not %d", what, p, needs, got, ok, want)
		}
	}
}

// mustSizes takes a list that a function returned for a plan and needs and holds it against what it must be.
func mustSizes(t *testing.T, what string, p []string, needs []int) func(got []int, ok bool, want []int) {
	return func(got []int, ok bool, want []int) {
		t.Helper()
		if !ok || !slices.Equal(got, want) {
			t.Fatalf("%s of %q with %v: %v, %v, not %v", what, p, needs, got, ok, want)
		}
	}
}

// mustHaveNoSize checks that all functions about one list of needs fail.
func mustHaveNoSize(t *testing.T, p []string, needs []int) {
	t.Helper()
	for what, tell := range map[string]func([]string, []int) (int, bool){
		"SizeWide": impl.SizeWide, "SizeHigh": impl.SizeHigh, "SizeCut": impl.SizeCut,
	} {
		if got, ok := tell(p, needs); ok || got != 0 {
			t.Fatalf("%s of %q with %v: %d, %v, not a failure", what, p, needs, got, ok)
		}
	}
	for what, tell := range map[string]func([]string, []int) ([]int, bool){
		"SizePlaces": impl.SizePlaces, "SizeSlack": impl.SizeSlack,
	} {
		if got, ok := tell(p, needs); ok || len(got) != 0 {
			t.Fatalf("%s of %q with %v: %v, %v, not a failure", what, p, needs, got, ok)
		}
	}
}

// mustHaveNoArea checks that SizeArea fails.
func mustHaveNoArea(t *testing.T, p []string, widths, heights []int) {
	t.Helper()
	if got, ok := impl.SizeArea(p, widths, heights); ok || got != 0 {
		t.Fatalf("SizeArea of %q with %v and %v: %d, %v, not a failure", p, widths, heights, got, ok)
	}
}
