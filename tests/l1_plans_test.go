package tests

import (
	"slices"
	"strings"
	"testing"

	"loop.example/floorrooms/impl"
)

func TestHelperPlans(t *testing.T) {
	for _, c := range []struct{ high, wide, many int }{{1, 1, 1}, {1, 6, 32}, {2, 2, 8}, {2, 3, 34}, {3, 3, 322}} {
		if plans := fillPlans(c.high, c.wide); len(plans) != c.many {
			t.Errorf("%d plans of %d rows and %d columns, not %d", len(plans), c.high, c.wide, c.many)
		}
	}
	for _, p := range somePlans() {
		if !isPlan(p) {
			t.Fatalf("%q is no plan", p)
		}
	}
	for _, p := range noPlans() {
		if isPlan(p) {
			t.Errorf("%q is a plan", p)
		}
	}
}

// eachText calls a function with each list of some rows and columns of the first few letters.
func eachText(high, wide, letters int, look func(p []string)) {
	cells := slices.Repeat([]byte("a"), high*wide)
	for {
		look(rowsOf(cells, wide))
		i := 0
		for i < len(cells) && cells[i] == byte('a'+letters-1) {
			cells[i] = 'a'
			i++
		}
		if i == len(cells) {
			return
		}
		cells[i]++
	}
}

func TestPromise1PlanIn(t *testing.T) {
	for _, p := range somePlans() {
		if !impl.PlanIn(p) {
			t.Fatalf("PlanIn does not hold for %q", p)
		}
		got, ok := impl.PlanName(p)
		must(t, "PlanName", p)(got, ok, p)
		if q, ok := impl.PlanTurn(p); !ok || !impl.PlanIn(q) {
			t.Fatalf("PlanTurn of %q: %q, %v is no plan", p, q, ok)
		}
		if q, ok := impl.PlanFlip(p); !ok || !impl.PlanIn(q) {
			t.Fatalf("PlanFlip of %q: %q, %v is no plan", p, q, ok)
		}
	}
	for _, p := range noPlans() {
		if impl.PlanIn(p) {
			t.Errorf("PlanIn holds for %q", p)
		}
	}
}

func TestPromise1And2AllTexts(t *testing.T) {
	for _, c := range []struct{ high, wide, letters int }{{1, 1, 26}, {1, 4, 5}, {2, 2, 5}, {2, 3, 5}, {3, 2, 5}, {3, 3, 3}} {
		eachText(c.high, c.wide, c.letters, func(p []string) {
			if impl.PlanIn(p) != isPlan(p) {
				t.Fatalf("PlanIn of %q is not %v", p, isPlan(p))
			}
			got, ok := impl.PlanName(p)
			if want := rename(p); isPlan(want) {
				must(t, "PlanName", p)(got, ok, want)
			} else {
				mustFail(t, "PlanName", p)(got, ok)
			}
		})
	}
}

func TestPromise2PlanName(t *testing.T) {
	for _, p := range somePlans() {
		for _, letters := range []string{"zyxwvutsr", "bcdefghia", "azbycxdwe", "ihgfedcba"} {
			q := make([]string, len(p))
			for i, row := range p {
				q[i] = strings.Map(func(r rune) rune { return rune(letters[r-'a']) }, row)
			}
			got, ok := impl.PlanName(q)
			must(t, "PlanName", q)(got, ok, p)
			if !impl.PlanIn(got) || len(got) != len(q) || len(got[0]) != len(q[0]) {
				t.Fatalf("PlanName of %q: %q", q, got)
			}
			again, ok := impl.PlanName(got)
			must(t, "PlanName", got)(again, ok, got)
		}
	}
	for _, p := range noPlans() {
		got, ok := impl.PlanName(p)
		if clean := len(p) > 0 && strings.Trim(strings.Join(p, ""), "abcdefghijklmnopqrstuvwxyz") == ""; clean && isPlan(rename(p)) {
			must(t, "PlanName", p)(got, ok, rename(p))
		} else {
			mustFail(t, "PlanName", p)(got, ok)
		}
	}
	for _, c := range [][2][]string{
		{{"z"}, {"a"}}, {{"zz", "yx"}, {"aa", "bc"}}, {{"ba"}, {"ab"}}, {{"jkl", "mno", "pqr"}, {"abc", "def", "ghi"}},
	} {
		got, ok := impl.PlanName(c[0])
		must(t, "PlanName", c[0])(got, ok, c[1])
	}
	for _, p := range [][]string{{"AB"}, {"aB"}, {"zxz"}, {"zx", "xz"}, {"zyxwv", "abcde"}, {"b!"}, {"b{"}, {"`b"}} {
		got, ok := impl.PlanName(p)
		mustFail(t, "PlanName", p)(got, ok)
	}
}

func TestPromise3PlanRooms(t *testing.T) {
	for _, p := range somePlans() {
		many, ok := impl.PlanRooms(p)
		if !ok || many < 1 || many != len(rectsOf(p)) {
			t.Fatalf("PlanRooms of %q: %d, %v", p, many, ok)
		}
		sum := 0
		areas, ok := impl.PlanAreas(p)
		for _, area := range areas {
			sum += area
		}
		if !ok || len(areas) != many || sum != len(p)*len(p[0]) {
			t.Fatalf("PlanAreas of %q: %v, %v", p, areas, ok)
		}
	}
	for _, p := range noPlans() {
		if many, ok := impl.PlanRooms(p); ok || many != 0 {
			t.Errorf("PlanRooms of %q: %d, %v", p, many, ok)
		}
	}
}

func TestPromise4PlanRoom(t *testing.T) {
	for _, p := range somePlans() {
		areas, _ := impl.PlanAreas(p)
		rects := rectsOf(p)
		for room, want := range rects {
			row, column, high, wide, ok := impl.PlanRoom(p, room)
			if !ok || (rect{row, column, high, wide}) != want {
				t.Fatalf("PlanRoom of %q, %d: %d %d %d %d, %v, not %v", p, room, row, column, high, wide, ok, want)
			}
			if high*wide != areas[room] || row < 0 || column < 0 || row+high > len(p) || column+wide > len(p[0]) {
				t.Fatalf("PlanRoom of %q, %d: %d %d %d %d", p, room, row, column, high, wide)
			}
		}
		for _, room := range append([]int{len(rects)}, farNumbers...) {
			mustHaveNoRoom(t, p, room)
		}
	}
	for _, p := range noPlans() {
		for room := range 10 {
			mustHaveNoRoom(t, p, room)
		}
	}
}

func mustHaveNoRoom(t *testing.T, p []string, room int) {
	t.Helper()
	row, column, high, wide, ok := impl.PlanRoom(p, room)
	if ok || row != 0 || column != 0 || high != 0 || wide != 0 {
		t.Fatalf("PlanRoom of %q, %d: %d %d %d %d, %v", p, room, row, column, high, wide, ok)
	}
}

func TestPromise5PlanTurn(t *testing.T) {
	for _, p := range somePlans() {
		turned, ok := impl.PlanTurn(p)
		must(t, "PlanTurn", p)(turned, ok, build(len(p[0]), len(p), func(row, column int) byte {
			return p[len(p)-1-column][row]
		}))
		back := turned
		for range 3 {
			back, _ = impl.PlanTurn(back)
		}
		must(t, "PlanTurn four times", p)(back, true, p)
		before, _ := impl.PlanAreas(p)
		after, _ := impl.PlanAreas(turned)
		if !slices.Equal(sorted(before), sorted(after)) {
			t.Fatalf("PlanTurn of %q has the areas %v, not %v", p, after, before)
		}
	}
	got, ok := impl.PlanTurn([]string{"aab", "cdb", "cee"})
	must(t, "PlanTurn", []string{"aab", "cdb", "cee"})(got, ok, []string{"aab", "cdb", "cee"})
	got, ok = impl.PlanTurn([]string{"aaab"})
	must(t, "PlanTurn", []string{"aaab"})(got, ok, []string{"a", "a", "a", "b"})
	got, ok = impl.PlanTurn([]string{"a", "b", "b"})
	must(t, "PlanTurn", []string{"a", "b", "b"})(got, ok, []string{"aab"})
}

func TestPromise6PlanFlip(t *testing.T) {
	for _, p := range somePlans() {
		flipped, ok := impl.PlanFlip(p)
		must(t, "PlanFlip", p)(flipped, ok, build(len(p), len(p[0]), func(row, column int) byte {
			return p[row][len(p[0])-1-column]
		}))
		back, ok := impl.PlanFlip(flipped)
		must(t, "PlanFlip twice", p)(back, ok, p)
		q, _ := impl.PlanTurn(p)
		q, _ = impl.PlanFlip(q)
		q, ok = impl.PlanTurn(q)
		must(t, "PlanTurn, PlanFlip and PlanTurn", p)(q, ok, flipped)
	}
	got, ok := impl.PlanFlip([]string{"abb", "cdd"})
	must(t, "PlanFlip", []string{"abb", "cdd"})(got, ok, []string{"aab", "ccd"})
}

func TestPromise7PlanTight(t *testing.T) {
	for _, p := range somePlans() {
		tight, ok := impl.PlanTight(p)
		must(t, "PlanTight", p)(tight, ok, tightened(p))
		again, ok := impl.PlanTight(tight)
		must(t, "PlanTight", tight)(again, ok, tight)
		before, _ := impl.PlanRooms(p)
		if after, ok := impl.PlanRooms(tight); !ok || after != before {
			t.Fatalf("PlanTight of %q: %q", p, tight)
		}
		if wide, ok := impl.PlanWide(p, 2); ok {
			got, ok := impl.PlanTight(wide)
			must(t, "PlanTight", wide)(got, ok, tight)
		}
	}
	for _, c := range [][2][]string{
		{{"a"}, {"a"}}, {{"aaa", "aaa"}, {"a"}}, {nine, {"abc", "def", "ghi"}},
		{{"aabb", "ccbb", "ccbb"}, {"ab", "cb"}}, {{"ab"}, {"ab"}}, {{"aab", "aab", "cdd"}, {"aab", "cdd"}},
	} {
		got, ok := impl.PlanTight(c[0])
		must(t, "PlanTight", c[0])(got, ok, c[1])
	}
}

// tightened keeps the rows and columns that differ from the one ahead of them.
func tightened(p []string) []string {
	rows := slices.Compact(slices.Clone(p))
	columns := slices.Compact(slices.Clone(flat(rows)))
	return rename(flat(columns))
}

// flat exchanges rows and columns and leaves the letters.
func flat(p []string) []string {
	out := make([]string, len(p[0]))
	for _, row := range p {
		for i := range out {
			out[i] += row[i : i+1]
		}
	}
	return out
}

func TestPromise8PlanWide(t *testing.T) {
	for _, p := range somePlans() {
		areas, _ := impl.PlanAreas(p)
		for k := 1; k <= 3; k++ {
			wide, ok := impl.PlanWide(p, k)
			if k*len(p) > 6 || k*len(p[0]) > 6 {
				mustFail(t, "PlanWide", p)(wide, ok)
				continue
			}
			must(t, "PlanWide", p)(wide, ok, build(k*len(p), k*len(p[0]), func(row, column int) byte {
				return p[row/k][column/k]
			}))
			wider, _ := impl.PlanAreas(wide)
			if len(wider) != len(areas) {
				t.Fatalf("PlanWide of %q, %d: %q", p, k, wide)
			}
			for i := range areas {
				if wider[i] != k*k*areas[i] {
					t.Fatalf("PlanWide of %q, %d has the areas %v", p, k, wider)
				}
			}
		}
	}
	for _, k := range append([]int{0, 4, 5, 6}, farNumbers...) {
		got, ok := impl.PlanWide([]string{"a"}, k)
		mustFail(t, "PlanWide", []string{"a"})(got, ok)
	}
	for _, p := range noPlans() {
		for k := 1; k <= 3; k++ {
			got, ok := impl.PlanWide(p, k)
			mustFail(t, "PlanWide", p)(got, ok)
		}
	}
}

// pairs calls a function with many pairs of plans, of all sizes and of just one room and as many as there may be.
func pairs(look func(p, q []string)) {
	plans := append(scatter(150), []string{"a"}, nine)
	plans = append(plans, fillPlans(2, 2)...)
	for _, p := range plans {
		for _, q := range plans {
			look(p, q)
		}
	}
}

func TestPromise9PlanBeside(t *testing.T) {
	told := 0
	pairs(func(p, q []string) {
		got, ok := impl.PlanBeside(p, q)
		if len(p) != len(q) || len(p[0])+len(q[0]) > 6 || len(rectsOf(p))+len(rectsOf(q)) > 9 {
			mustFail(t, "PlanBeside", slices.Concat(p, q))(got, ok)
			return
		}
		told++
		must(t, "PlanBeside", slices.Concat(p, q))(got, ok, build(len(p), len(p[0])+len(q[0]), func(row, column int) byte {
			if column < len(p[0]) {
				return p[row][column]
			}
			return 'z' - q[row][column-len(p[0])] + 'a'
		}))
		a, _ := impl.PlanRooms(p)
		b, _ := impl.PlanRooms(q)
		if both, _ := impl.PlanRooms(got); both != a+b {
			t.Fatalf("PlanBeside of %q, %q: %q", p, q, got)
		}
		flippedP, _ := impl.PlanFlip(p)
		flippedQ, _ := impl.PlanFlip(q)
		back, _ := impl.PlanBeside(flippedQ, flippedP)
		back, ok = impl.PlanFlip(back)
		must(t, "PlanFlip of both flipped and exchanged", got)(back, ok, got)
	})
	if told < 500 {
		t.Errorf("only %d pairs beside each other", told)
	}
	joinFails(t, "PlanBeside", impl.PlanBeside)
}

func TestPromise10PlanUnder(t *testing.T) {
	told := 0
	pairs(func(p, q []string) {
		got, ok := impl.PlanUnder(p, q)
		if len(p[0]) != len(q[0]) || len(p)+len(q) > 6 || len(rectsOf(p))+len(rectsOf(q)) > 9 {
			mustFail(t, "PlanUnder", slices.Concat(p, q))(got, ok)
			return
		}
		told++
		must(t, "PlanUnder", slices.Concat(p, q))(got, ok, build(len(p)+len(q), len(p[0]), func(row, column int) byte {
			if row < len(p) {
				return p[row][column]
			}
			return 'z' - q[row-len(p)][column] + 'a'
		}))
		exchanged, _ := impl.PlanTrans(got)
		transP, _ := impl.PlanTrans(p)
		transQ, _ := impl.PlanTrans(q)
		beside, ok := impl.PlanBeside(transP, transQ)
		must(t, "PlanTrans of PlanUnder", got)(beside, ok, exchanged)
	})
	if told < 500 {
		t.Errorf("only %d pairs below each other", told)
	}
	joinFails(t, "PlanUnder", impl.PlanUnder)
}

// joinFails checks that two plans do not come together if one of both is none, nor beyond a limit.
func joinFails(t *testing.T, what string, join func(p, q []string) ([]string, bool)) {
	t.Helper()
	for _, p := range noPlans() {
		for _, q := range [][]string{nil, {"a"}, {"ab", "ac"}, nine, p} {
			got, ok := join(p, q)
			mustFail(t, what, slices.Concat(p, q))(got, ok)
			got, ok = join(q, p)
			mustFail(t, what, slices.Concat(q, p))(got, ok)
		}
	}
	got, ok := join(nine, nine)
	mustFail(t, what, nine)(got, ok)
	full, last, plain := []string{"abc", "def", "ghi"}, []string{"abcd", "efgh", "iiii"}, []string{"aaa", "aaa", "aaa"}
	got, ok = join(full, plain)
	mustFail(t, what, full)(got, ok)
	got, ok = join(plain, full)
	mustFail(t, what, full)(got, ok)
	got, ok = join(last, []string{"aaaa", "aaaa", "aaaa"})
	mustFail(t, what, last)(got, ok)
	eight := []string{"abc", "def", "ghh"}
	if got, ok = join(eight, plain); !ok || len(rectsOf(got)) != 9 {
		t.Errorf("%s of %q and %q: %q, %v", what, eight, plain, got, ok)
	}
}

func TestPromise11PlanSplit(t *testing.T) {
	for _, p := range somePlans() {
		rects := rectsOf(p)
		for room, r := range rects {
			for k := -1; k <= 7; k++ {
				got, ok := impl.PlanSplit(p, room, "h", k)
				mustSplit(t, p, r, k, r.high, got, ok, rect{r.row, r.column, k, r.wide})
				got, ok = impl.PlanSplit(p, room, "v", k)
				mustSplit(t, p, r, k, r.wide, got, ok, rect{r.row, r.column, r.high, k})
			}
		}
		for _, letter := range []string{"h", "v"} {
			for _, far := range append([]int{len(rects)}, farNumbers...) {
				got, ok := impl.PlanSplit(p, far, letter, 1)
				mustFail(t, "PlanSplit", p)(got, ok)
			}
		}
	}
	square := []string{"aaaaaa", "aaaaaa", "aaaaaa", "aaaaaa", "aaaaaa", "aaaaaa"}
	for _, letter := range []string{"", "H", "V", "hv", "hh", "v ", " v", "x", "a", "\x00", "0"} {
		got, ok := impl.PlanSplit(square, 0, letter, 1)
		mustFail(t, "PlanSplit by "+letter, square)(got, ok)
	}
	for _, letter := range []string{"h", "v"} {
		for _, k := range append([]int{0, 6, 7}, farNumbers...) {
			got, ok := impl.PlanSplit(square, 0, letter, k)
			mustFail(t, "PlanSplit", square)(got, ok)
		}
		got, ok := impl.PlanSplit(nine, 4, letter, 1)
		mustFail(t, "PlanSplit", nine)(got, ok)
		for _, p := range noPlans() {
			got, ok := impl.PlanSplit(p, 0, letter, 1)
			mustFail(t, "PlanSplit", p)(got, ok)
		}
	}
	got, ok := impl.PlanSplit([]string{"aab", "cdb", "cee"}, 2, "h", 1)
	must(t, "PlanSplit", []string{"aab", "cdb", "cee"})(got, ok, []string{"aab", "cdb", "eff"})
	got, ok = impl.PlanSplit([]string{"aab", "cdb", "cee"}, 0, "v", 1)
	must(t, "PlanSplit", []string{"aab", "cdb", "cee"})(got, ok, []string{"abc", "dec", "dff"})
}

// mustSplit checks the plan in which the first part of a room has its own letter, and that it leads back.
func mustSplit(t *testing.T, p []string, r rect, k, side int, got []string, ok bool, first rect) {
	t.Helper()
	if k < 1 || k >= side || len(rectsOf(p)) == 9 {
		mustFail(t, "PlanSplit", p)(got, ok)
		return
	}
	cells := []byte(strings.Join(p, ""))
	paint(cells, len(p[0]), first, 'z')
	must(t, "PlanSplit", p)(got, ok, rename(rowsOf(cells, len(p[0]))))
	many, _ := impl.PlanRooms(got)
	if many != len(rectsOf(p))+1 {
		t.Fatalf("PlanSplit of %q: %q", p, got)
	}
	for a := range many {
		for b := range many {
			if q, ok := impl.PlanMerge(got, a, b); ok && slices.Equal(q, p) {
				return
			}
		}
	}
	t.Fatalf("PlanSplit of %q: %q, and no two rooms merged are the plan", p, got)
}

func TestPromise11PlanMerge(t *testing.T) {
	for _, p := range append(fillPlans(3, 3), append(scatter(200), nine)...) {
		many := len(rectsOf(p))
		for a := range many {
			for b := range many {
				got, ok := impl.PlanMerge(p, a, b)
				want := rename(strings.Split(strings.ReplaceAll(strings.Join(p, "/"), string(rune('a'+b)), string(rune('a'+a))), "/"))
				if a == b || !isPlan(want) {
					mustFail(t, "PlanMerge", p)(got, ok)
				} else {
					must(t, "PlanMerge", p)(got, ok, want)
				}
			}
			for _, far := range append([]int{many}, farNumbers...) {
				got, ok := impl.PlanMerge(p, a, far)
				mustFail(t, "PlanMerge", p)(got, ok)
				got, ok = impl.PlanMerge(p, far, a)
				mustFail(t, "PlanMerge", p)(got, ok)
				got, ok = impl.PlanMerge(p, far, far)
				mustFail(t, "PlanMerge", p)(got, ok)
			}
		}
	}
	for _, p := range noPlans() {
		got, ok := impl.PlanMerge(p, 0, 1)
		mustFail(t, "PlanMerge", p)(got, ok)
	}
	got, ok := impl.PlanMerge([]string{"ab", "cc"}, 1, 0)
	must(t, "PlanMerge", []string{"ab", "cc"})(got, ok, []string{"aa", "bb"})
}

func TestPromise12PlanAreas(t *testing.T) {
	for _, p := range somePlans() {
		areas, ok := impl.PlanAreas(p)
		if !ok || len(areas) != len(rectsOf(p)) {
			t.Fatalf("PlanAreas of %q: %v, %v", p, areas, ok)
		}
		for room, area := range areas {
			if area < 1 || area != count(p, byte('a'+room)) {
				t.Fatalf("PlanAreas of %q: %v", p, areas)
			}
		}
		q, _ := impl.PlanTrans(p)
		exchanged, ok := impl.PlanAreas(q)
		if !ok || !slices.Equal(sorted(areas), sorted(exchanged)) {
			t.Fatalf("PlanAreas of %q: %v, and of %q: %v", p, areas, q, exchanged)
		}
	}
	for _, p := range noPlans() {
		if areas, ok := impl.PlanAreas(p); ok || len(areas) != 0 {
			t.Errorf("PlanAreas of %q: %v, %v", p, areas, ok)
		}
	}
}

func TestPromise13PlanTrans(t *testing.T) {
	for _, p := range somePlans() {
		got, ok := impl.PlanTrans(p)
		must(t, "PlanTrans", p)(got, ok, trans(p))
		back, ok := impl.PlanTrans(got)
		must(t, "PlanTrans twice", p)(back, ok, p)
		q, _ := impl.PlanTurn(p)
		q, ok = impl.PlanFlip(q)
		must(t, "PlanTurn and PlanFlip", p)(q, ok, got)
	}
	got, ok := impl.PlanTrans([]string{"aab", "cdb", "cee"})
	must(t, "PlanTrans", []string{"aab", "cdb", "cee"})(got, ok, []string{"abb", "acd", "eed"})
}

// changes are the functions that make a plan of one plan.
var changes = map[string]func(p []string) ([]string, bool){
	"PlanName":  impl.PlanName,
	"PlanTurn":  impl.PlanTurn,
	"PlanFlip":  impl.PlanFlip,
	"PlanTight": impl.PlanTight,
	"PlanTrans": impl.PlanTrans,
	"PlanWide":  func(p []string) ([]string, bool) { return impl.PlanWide(p, 1) },
	"PlanSplit": func(p []string) ([]string, bool) { return impl.PlanSplit(p, 0, "h", 1) },
	"PlanMerge": func(p []string) ([]string, bool) { return impl.PlanMerge(p, 0, 1) },
	"PlanBeside": func(p []string) ([]string, bool) {
		return impl.PlanBeside(p, p)
	},
	"PlanUnder": func(p []string) ([]string, bool) {
		return impl.PlanUnder(p, p)
	},
}

func TestPlansOfNoPlan(t *testing.T) {
	for name, change := range changes {
		for _, p := range noPlans() {
			if name == "PlanName" {
				continue
			}
			got, ok := change(p)
			mustFail(t, name, p)(got, ok)
		}
	}
}

func TestPlansOfOneCell(t *testing.T) {
	one := []string{"a"}
	for _, name := range []string{"PlanName", "PlanTurn", "PlanFlip", "PlanTight", "PlanTrans", "PlanWide"} {
		got, ok := changes[name](one)
		must(t, name, one)(got, ok, one)
	}
	for _, name := range []string{"PlanSplit", "PlanMerge"} {
		got, ok := changes[name](one)
		mustFail(t, name, one)(got, ok)
	}
	got, ok := impl.PlanBeside(one, one)
	must(t, "PlanBeside", one)(got, ok, []string{"ab"})
	got, ok = impl.PlanUnder(one, one)
	must(t, "PlanUnder", one)(got, ok, []string{"a", "b"})
	got, ok = impl.PlanWide(one, 3)
	must(t, "PlanWide", one)(got, ok, []string{"aaa", "aaa", "aaa"})
	if many, ok := impl.PlanRooms(one); !ok || many != 1 {
		t.Errorf("PlanRooms of one cell: %d, %v", many, ok)
	}
	if areas, ok := impl.PlanAreas(one); !ok || !slices.Equal(areas, []int{1}) {
		t.Errorf("PlanAreas of one cell: %v, %v", areas, ok)
	}
	if row, column, high, wide, ok := impl.PlanRoom(one, 0); !ok || row != 0 || column != 0 || high != 1 || wide != 1 {
		t.Errorf("PlanRoom of one cell: %d %d %d %d, %v", row, column, high, wide, ok)
	}
}

// TestPlansShareNothing checks that arguments stay as they are, also behind their ends, and that results are new.
func TestPlansShareNothing(t *testing.T) {
	whole := []string{"aabb", "aabb", "x", "y"}
	for name, change := range changes {
		p := slices.Clone(whole)
		first, _ := change(p[:2])
		keep := slices.Clone(first)
		for i := range first[:cap(first)] {
			first[:cap(first)][i] = "w"
		}
		if !slices.Equal(p, whole) {
			t.Errorf("%s changed its argument to %q", name, p)
		}
		if second, _ := change(p[:2]); !slices.Equal(second, keep) {
			t.Errorf("%s: %q and then %q", name, keep, second)
		}
	}
	areas, _ := impl.PlanAreas(whole[:2])
	areas[0] = 9
	if again, _ := impl.PlanAreas(whole[:2]); !slices.Equal(again, []int{4, 4}) {
		t.Errorf("PlanAreas: %v", again)
	}
}
