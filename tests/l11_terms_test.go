package tests

import (
	"slices"
	"strings"
	"testing"

	"loop.example/floorrooms/impl"
)

// termCase is what is known by hand of a term; the plan is none if it would have too many rows or columns.
type termCase struct {
	term       string
	plan       []string
	perm       []int
	tidy, left string
}

var termCases = []termCase{
	{"o", []string{"a"}, []int{0}, "o", "o"},
	{">o", []string{"a"}, []int{0}, "o", "o"},
	{"^o", []string{"a"}, []int{0}, "o", "o"},
	{">^>>^o", []string{"a"}, []int{0}, "o", "o"},
	{"(o|o)", []string{"ab"}, []int{0, 1}, "(o|o)", "(o|o)"},
	{"(o-o)", []string{"a", "b"}, []int{1, 0}, "(o-o)", "(o-o)"},
	{"((o-o)|o)", []string{"ab", "cb"}, []int{1, 0, 2}, "((o-o)|o)", "((o-o)|o)"},
	{"(o|(o-o))", []string{"ab", "ac"}, []int{0, 2, 1}, "(o|(o-o))", "(o|(o-o))"},
	{"((o|o)-o)", []string{"ab", "cc"}, []int{2, 0, 1}, "((o|o)-o)", "((o|o)-o)"},
	{"(o-(o|o))", []string{"aa", "bc"}, []int{1, 2, 0}, "(o-(o|o))", "(o-(o|o))"},
	// Both have more rows, or columns, than one: the last one of the first and the first one of the second are repeated.
	{"((o-o)|(o-o))", []string{"ab", "cb", "cd"}, []int{1, 0, 3, 2}, "((o-o)|(o-o))", "((o-o)|(o-o))"},
	{"((o|o)-(o|o))", []string{"abb", "ccd"}, []int{2, 3, 0, 1}, "((o|o)-(o|o))", "((o|o)-(o|o))"},
	{"(((o-o)-o)|(o-o))", []string{"ab", "cb", "db", "de"}, []int{2, 1, 0, 4, 3}, "(((o-o)-o)|(o-o))", "(((o-o)-o)|(o-o))"},
	{"((o-o)|((o-o)-o))", []string{"ab", "cb", "cd", "ce"}, []int{1, 0, 4, 3, 2}, "((o-o)|((o-o)-o))", "((o-o)|((o-o)-o))"},
	// One sign in front. A plan need not be that of the tidy term.
	{">(o|o)", []string{"a", "b"}, []int{1, 0}, "(o-o)", "(o-o)"},
	{">(o-o)", []string{"ab"}, []int{0, 1}, "(o|o)", "(o|o)"},
	{"^(o|o)", []string{"ab"}, []int{0, 1}, "(o|o)", "(o|o)"},
	{"^(o-o)", []string{"a", "b"}, []int{1, 0}, "(o-o)", "(o-o)"},
	{">((o-o)|o)", []string{"ab", "cc"}, []int{2, 0, 1}, "((o|o)-o)", "((o|o)-o)"},
	{">(o-(o|o))", []string{"ab", "cb"}, []int{1, 0, 2}, "((o-o)|o)", "((o-o)|o)"},
	{"^((o-o)|o)", []string{"ab", "ac"}, []int{0, 2, 1}, "(o|(o-o))", "(o|(o-o))"},
	{"^((o|o)-o)", []string{"ab", "cc"}, []int{2, 0, 1}, "((o|o)-o)", "((o|o)-o)"},
	{">((o-o)|(o-o))", []string{"aab", "cdd"}, []int{2, 3, 0, 1}, "((o|o)-(o|o))", "((o|o)-(o|o))"},
	{"(>(o|o)|^o)", []string{"ab", "cb"}, []int{1, 0, 2}, "((o-o)|o)", "((o-o)|o)"},
	// Signs in front of signs: the one next to the brackets goes first.
	{">>((o-o)|o)", []string{"ab", "ac"}, []int{0, 2, 1}, "(o|(o-o))", "(o|(o-o))"},
	{">>>((o-o)|o)", []string{"aa", "bc"}, []int{1, 2, 0}, "(o-(o|o))", "(o-(o|o))"},
	{">>>>((o-o)|o)", []string{"ab", "cb"}, []int{1, 0, 2}, "((o-o)|o)", "((o-o)|o)"},
	{"^^((o-o)|o)", []string{"ab", "cb"}, []int{1, 0, 2}, "((o-o)|o)", "((o-o)|o)"},
	{">^((o-o)|o)", []string{"aa", "bc"}, []int{1, 2, 0}, "(o-(o|o))", "(o-(o|o))"},
	{"^>((o-o)|o)", []string{"ab", "cc"}, []int{2, 0, 1}, "((o|o)-o)", "((o|o)-o)"},
	{"(>^o->>(o|^>(o|o)))", []string{"aa", "bc", "dc"}, []int{2, 1, 3, 0}, "(o-((o-o)|o))", "(o-((o-o)|o))"},
	// Brackets on the right around the same sign.
	{"(o|(o|o))", []string{"abc"}, []int{0, 1, 2}, "(o|(o|o))", "((o|o)|o)"},
	{"(o-(o-o))", []string{"a", "b", "c"}, []int{2, 1, 0}, "(o-(o-o))", "((o-o)-o)"},
	{"(o|(o|(o|o)))", []string{"abcd"}, []int{0, 1, 2, 3}, "(o|(o|(o|o)))", "(((o|o)|o)|o)"},
	{"(o-((o-o)-o))", []string{"a", "b", "c", "d"}, []int{3, 2, 1, 0}, "(o-((o-o)-o))", "(((o-o)-o)-o)"},
	{"((o|o)|(o|o))", []string{"abcd"}, []int{0, 1, 2, 3}, "((o|o)|(o|o))", "(((o|o)|o)|o)"},
	{"(o|((o-o)|o))", []string{"abc", "adc"}, []int{0, 2, 1, 3}, "(o|((o-o)|o))", "((o|(o-o))|o)"},
	{"(o|(o|(o-(o-o))))", []string{"abc", "abd", "abe"}, []int{0, 1, 4, 3, 2}, "(o|(o|(o-(o-o))))", "((o|o)|((o-o)-o))"},
	{"(o|(o-(o|(o|o))))", []string{"abbb", "acde"}, []int{0, 2, 3, 4, 1}, "(o|(o-(o|(o|o))))", "(o|(o-((o|o)|o)))"},
	// Signs in front of such brackets make them others, or make such ones of others.
	{"(o|>(o-o))", []string{"abc"}, []int{0, 1, 2}, "(o|(o|o))", "((o|o)|o)"},
	{"(o->(o-o))", []string{"aa", "bc"}, []int{1, 2, 0}, "(o-(o|o))", "(o-(o|o))"},
	{"(o|^(o|(o|o)))", []string{"abcd"}, []int{0, 1, 2, 3}, "(o|((o|o)|o))", "(((o|o)|o)|o)"},
	{">((o-o)-o)", []string{"abc"}, []int{0, 1, 2}, "(o|(o|o))", "((o|o)|o)"},
	{"^((o|o)|(o-(o-o)))", []string{"abc", "dbc", "ebc"}, []int{2, 1, 0, 3, 4}, "((o-(o-o))|(o|o))", "((((o-o)-o)|o)|o)"},
	// 6 rows or 6 columns.
	{"(((((o|o)|o)|o)|o)|o)", []string{"abcdef"}, []int{0, 1, 2, 3, 4, 5}, "(((((o|o)|o)|o)|o)|o)", "(((((o|o)|o)|o)|o)|o)"},
	{"(o-(o-(o-(o-(o-o)))))", []string{"a", "b", "c", "d", "e", "f"}, []int{5, 4, 3, 2, 1, 0}, "(o-(o-(o-(o-(o-o)))))", "(((((o-o)-o)-o)-o)-o)"},
	{"((((((o|o)|o)|o)|o)|o)-o)", []string{"abcdef", "gggggg"}, []int{6, 0, 1, 2, 3, 4, 5}, "((((((o|o)|o)|o)|o)|o)-o)", "((((((o|o)|o)|o)|o)|o)-o)"},
	{"(o-(((((o|o)|o)|o)|o)|o))", []string{"aaaaaa", "bcdefg"}, []int{1, 2, 3, 4, 5, 6, 0}, "(o-(((((o|o)|o)|o)|o)|o))", "(o-(((((o|o)|o)|o)|o)|o))"},
	{"((((((o-o)-o)-o)-o)-o)|o)", []string{"ab", "cb", "db", "eb", "fb", "gb"}, []int{5, 4, 3, 2, 1, 0, 6}, "((((((o-o)-o)-o)-o)-o)|o)", "((((((o-o)-o)-o)-o)-o)|o)"},
	{"(((o|o)|o)-(((o|o)|o)|o))", []string{"abcccc", "dddefg"}, []int{3, 4, 5, 6, 0, 1, 2}, "(((o|o)|o)-(((o|o)|o)|o))", "(((o|o)|o)-(((o|o)|o)|o))"},
	// They would have 7.
	{"((((((o|o)|o)|o)|o)|o)|o)", nil, []int{0, 1, 2, 3, 4, 5, 6}, "((((((o|o)|o)|o)|o)|o)|o)", "((((((o|o)|o)|o)|o)|o)|o)"},
	{"(o-(o-(o-(o-(o-(o-o))))))", nil, []int{6, 5, 4, 3, 2, 1, 0}, "(o-(o-(o-(o-(o-(o-o))))))", "((((((o-o)-o)-o)-o)-o)-o)"},
	{">(o-(o-(o-(o-(o-(o-o))))))", nil, []int{0, 1, 2, 3, 4, 5, 6}, "((((((o|o)|o)|o)|o)|o)|o)", "((((((o|o)|o)|o)|o)|o)|o)"},
	{"((o|^(o|o))|>((o-o)-(o-o)))", nil, []int{0, 1, 2, 3, 4, 5, 6}, "((o|(o|o))|((o|o)|(o|o)))", "((((((o|o)|o)|o)|o)|o)|o)"},
}

// longCases are terms of 60 bytes and the shorter ones that they come to: of signs in front, four turns are none, and so are two flips,
// and a turn, a flip and a turn are a flip.
var longCases = [][2]string{
	{strings.Repeat(">", 59) + "o", "o"},
	{strings.Repeat("^", 59) + "o", "o"},
	{strings.Repeat(">", 51) + "((o-o)|o)", ">>>((o-o)|o)"},
	{strings.Repeat("^", 51) + "((o-o)|o)", "^((o-o)|o)"},
	{strings.Repeat(">^", 25) + ">((o-o)|o)", "^((o-o)|o)"},
	{"^" + strings.Repeat(">^", 25) + "((o-o)|o)", ">>>((o-o)|o)"},
	{"((o-o)|" + strings.Repeat(">", 47) + "(o|o))", "((o-o)|>>>(o|o))"},
	{strings.Repeat(">", 35) + "((((((o|o)|o)|o)|o)|o)-o)", ">>>((((((o|o)|o)|o)|o)|o)-o)"},
}

func TestTermsByHand(t *testing.T) {
	for _, c := range termCases {
		mustBeTerm(t, c.term, c)
	}
	for _, long := range longCases {
		if len(long[0]) != 60 {
			t.Fatalf("%q has %d bytes", long[0], len(long[0]))
		}
		i := slices.IndexFunc(termCases, func(c termCase) bool { return c.term == long[1] })
		if i >= 0 {
			mustBeTerm(t, long[0], termCases[i])
			continue
		}
		mustBeTerm(t, long[0], termCase{long[1], planTold(long[1]), permTold(long[1]), tidied(long[1]), leftened(tidied(long[1]))})
	}
}

// mustBeTerm checks all that is told of a term.
func mustBeTerm(t *testing.T, s string, c termCase) {
	t.Helper()
	if !impl.TermIn(s) {
		t.Fatalf("TermIn of %q does not hold", s)
	}
	if rooms, ok := impl.TermRooms(s); !ok || rooms != len(c.perm) {
		t.Fatalf("TermRooms of %q: %d, %v, not %d", s, rooms, ok, len(c.perm))
	}
	mustTell(t, s, c.plan)
	perm, ok := impl.TermPerm(s)
	if !ok || !slices.Equal(perm, c.perm) {
		t.Fatalf("TermPerm of %q: %v, %v, not %v", s, perm, ok, c.perm)
	}
	u, ok := impl.TermTidy(s)
	mustText(t, "TermTidy", s)(u, ok, c.tidy)
	u, ok = impl.TermLeft(s)
	mustText(t, "TermLeft", s)(u, ok, c.left)
	mustBeSame(t, s, c.tidy, true)
	mustBeSame(t, s, c.left, true)
}

func TestHelperTerms(t *testing.T) {
	for _, c := range termCases {
		s := c.term
		if !isTerm(s) || !slices.Equal(planTold(s), c.plan) || !slices.Equal(permTold(s), c.perm) || tidied(s) != c.tidy || leftened(c.tidy) != c.left {
			t.Errorf("%q: %v, %q, %v, %q, %q", s, isTerm(s), planTold(s), permTold(s), tidied(s), leftened(c.tidy))
		}
	}
	for _, s := range noTerms {
		if isTerm(s) {
			t.Errorf("%q is a term", s)
		}
	}
	// Trees of two signs, and the loose permutations.
	for i, many := range [][2]int{{1, 1}, {2, 2}, {8, 6}, {40, 22}, {224, 90}, {1344, 394}, {8448, 1806}} {
		all, perms := tidyTerms()[i+1], map[string]bool{}
		for _, s := range all {
			perms[listText(permTold(s))] = true
		}
		if len(all) != many[0] || len(perms) != many[1] {
			t.Errorf("%d terms of %d rooms have %d permutations", len(all), i+1, len(perms))
		}
	}
	longest, rooms := 0, [8]int{}
	for _, s := range scatteredTerms(4000) {
		longest = max(longest, len(s))
		if len(s) == 60 {
			rooms[strings.Count(s, "o")]++
		}
	}
	if longest != 60 || slices.Contains(rooms[1:], 0) {
		t.Errorf("the longest term has %d bytes; terms of 60 bytes by rooms: %v", longest, rooms)
	}
}

func TestPromise90TermIn(t *testing.T) {
	for _, s := range someTerms() {
		if !impl.TermIn(s) {
			t.Fatalf("TermIn of %q does not hold", s)
		}
		for _, front := range []string{">", "^"} {
			if impl.TermIn(front+s) != (len(s) < 60) {
				t.Fatalf("TermIn of %q, of %d bytes: %v", front+s, len(front+s), impl.TermIn(front+s))
			}
		}
		for _, behind := range []string{")", "("} {
			if impl.TermIn(s + behind) {
				t.Fatalf("TermIn of %q holds", s+behind)
			}
		}
	}
}

func TestPromise90NoTerm(t *testing.T) {
	for _, s := range noTerms {
		mustBeNoTerm(t, s)
	}
}

// TestPromise90AllTexts checks TermIn of all short texts of brackets and signs.
func TestPromise90AllTexts(t *testing.T) {
	found := 0
	texts := []string{""}
	for range 6 {
		var longer []string
		for _, s := range texts {
			for _, sign := range "o>^(|-)" {
				longer = append(longer, s+string(sign))
			}
		}
		texts = longer
		for _, s := range texts {
			is := isTerm(s)
			if impl.TermIn(s) != is {
				t.Fatalf("TermIn of %q: %v", s, !is)
			}
			if is {
				found++
			}
		}
	}
	// Of rooms alone 1, 2, 4, 8, 16 and 32, and two in brackets 2 of 5 bytes and 12 of 6.
	if found != 63+14 {
		t.Errorf("%d texts are terms", found)
	}
}

// TestPromise90ChangedTexts checks texts that are terms but for one byte.
func TestPromise90ChangedTexts(t *testing.T) {
	wrong := 0
	for _, s := range append(scatteredTerms(400), "(((o|o)|(o|o))|((o|o)|o))") {
		for at := range len(s) + 1 {
			var texts []string
			for _, sign := range "o>^(|-) O0/\x00\n" {
				texts = append(texts, s[:at]+string(sign)+s[at:])
				if at < len(s) {
					texts = append(texts, s[:at]+string(sign)+s[at+1:], s[:at]+s[at+1:])
				}
			}
			for _, u := range texts {
				is := isTerm(u)
				if impl.TermIn(u) != is {
					t.Fatalf("TermIn of %q: %v", u, !is)
				}
				if !is {
					wrong++
				}
			}
		}
	}
	if wrong < 10000 {
		t.Errorf("only %d texts are no terms", wrong)
	}
}

func TestPromise91TermRooms(t *testing.T) {
	for _, s := range someTerms() {
		rooms, ok := impl.TermRooms(s)
		if !ok || rooms != strings.Count(s, "o") {
			t.Fatalf("TermRooms of %q: %d, %v", s, rooms, ok)
		}
		if perm, ok := impl.TermPerm(s); !ok || len(perm) != rooms {
			t.Fatalf("TermPerm of %q: %v, %v, and %d rooms", s, perm, ok, rooms)
		}
		if p, ok := impl.TermPlan(s); ok {
			many, ok := impl.PlanRooms(p)
			mustNumber(t, "PlanRooms", p)(many, ok, rooms)
		}
	}
}

func TestPromise92TermPlan(t *testing.T) {
	told, not := 0, 0
	for _, s := range someTerms() {
		p := planTold(s)
		mustTell(t, s, p)
		if p == nil {
			not++
			mustTell(t, ">"+s, nil)
			mustTell(t, "^"+s, nil)
			continue
		}
		told++
		if !impl.WallPlain(p) || !impl.CutIs(p) {
			t.Fatalf("TermPlan of %q: %q", s, p)
		}
		if len(s) == 60 {
			continue
		}
		q, _ := impl.PlanTurn(p)
		mustTell(t, ">"+s, q)
		q, _ = impl.PlanFlip(p)
		mustTell(t, "^"+s, q)
	}
	if told < 20000 || not < 100 {
		t.Errorf("%d plans are told, and %d are not", told, not)
	}
}

// TestPromise92Sides checks that plans of up to 6 rooms are told, and of those of 7 rooms all but those of one row or one column.
func TestPromise92Sides(t *testing.T) {
	for rooms, all := range tidyTerms() {
		for _, s := range all {
			p, ok := impl.TermPlan(s)
			if is := rooms < 7 || strings.Contains(s, "|") && strings.Contains(s, "-"); ok != is {
				t.Fatalf("TermPlan of %q: %q, %v", s, p, ok)
			}
			// Each sign makes one row or column more.
			if ok && (len(p) != 1+strings.Count(s, "-") || len(p[0]) != 1+strings.Count(s, "|")) {
				t.Fatalf("TermPlan of %q: %q", s, p)
			}
		}
	}
}

func TestPromise93TermPerm(t *testing.T) {
	for _, s := range someTerms() {
		perm, ok := impl.TermPerm(s)
		mustPerm(t, "TermPerm of "+s)(perm, ok, permTold(s))
		if !impl.PermLoose(perm) {
			t.Fatalf("TermPerm of %q: %v", s, perm)
		}
		if p, ok := impl.TermPlan(s); ok {
			same, ok := impl.OrderPerm(p)
			mustRooms(t, "OrderPerm", p)(same, ok, perm)
		}
	}
}

// TestPromise93Joined checks that terms are put together as PermAside and PermUnder do, also if their plans are not told.
func TestPromise93Joined(t *testing.T) {
	for rooms, all := range tidyTerms()[:7] {
		for _, s := range all {
			for _, u := range tidyTerms()[min(7-rooms, 3)] {
				first, _ := impl.TermPerm(s)
				second, _ := impl.TermPerm(u)
				want, _ := impl.PermAside(first, second)
				perm, ok := impl.TermPerm("(" + s + "|" + u + ")")
				mustPerm(t, "TermPerm of "+s+"|"+u)(perm, ok, want)
				want, _ = impl.PermUnder(first, second)
				perm, ok = impl.TermPerm("(" + s + "-" + u + ")")
				mustPerm(t, "TermPerm of "+s+"-"+u)(perm, ok, want)
			}
		}
	}
}

func TestPromise94TermTidy(t *testing.T) {
	for _, s := range someTerms() {
		u, ok := impl.TermTidy(s)
		mustText(t, "TermTidy", s)(u, ok, tidied(s))
		if strings.ContainsAny(u, ">^") || len(u) > len(s) {
			t.Fatalf("TermTidy of %q: %q", s, u)
		}
		again, ok := impl.TermTidy(u)
		mustText(t, "TermTidy", u)(again, ok, u)
		perm, _ := impl.TermPerm(s)
		same, ok := impl.TermPerm(u)
		mustPerm(t, "TermPerm of "+u)(same, ok, perm)
		p, told := impl.TermPlan(s)
		q, also := impl.TermPlan(u)
		if told != also || len(p) != len(q) {
			t.Fatalf("TermPlan of %q: %q, and of the tidy term %q: %q", s, p, u, q)
		}
	}
}

func TestPromise95TermLeft(t *testing.T) {
	for _, s := range someTerms() {
		tidy, _ := impl.TermTidy(s)
		u, ok := impl.TermLeft(s)
		mustText(t, "TermLeft", s)(u, ok, leftened(tidy))
		again, ok := impl.TermLeft(u)
		mustText(t, "TermLeft", u)(again, ok, u)
		again, ok = impl.TermLeft(tidy)
		mustText(t, "TermLeft", tidy)(again, ok, u)
		if _, more := moveLeft(u); more || len(u) != len(tidy) {
			t.Fatalf("TermLeft of %q: %q", s, u)
		}
		mustBeSame(t, u, s, true)
	}
}

// TestPromise95EachPerm checks that of all tidy terms just one with each permutation is that of TermLeft.
func TestPromise95EachPerm(t *testing.T) {
	lefts := map[string]string{}
	for _, s := range slices.Concat(tidyTerms()...) {
		if u, _ := impl.TermLeft(s); u == s {
			perm := listText(permTold(s))
			if lefts[perm] != "" {
				t.Fatalf("TermLeft of %q and of %q are they, and both have %v", s, lefts[perm], perm)
			}
			lefts[perm] = s
		}
	}
	for _, perm := range allPerms() {
		if isLoose(perm) != (lefts[listText(perm)] != "") {
			t.Fatalf("%v is that of the term %q", perm, lefts[listText(perm)])
		}
	}
}

func TestPromise96TermSame(t *testing.T) {
	terms := slices.Concat(tidyTerms()[:5]...)
	terms = append(terms, scatteredTerms(300)...)
	same := 0
	for i, s := range terms {
		for _, u := range terms[i:] {
			is := slices.Equal(permTold(s), permTold(u))
			mustBeSame(t, s, u, is)
			a, _ := impl.TermLeft(s)
			b, _ := impl.TermLeft(u)
			if is != (a == b) {
				t.Fatalf("TermLeft of %q: %q, and of %q: %q, and TermSame: %v", s, a, u, b, is)
			}
			if is && s != u {
				same++
			}
		}
	}
	if same < 100 {
		t.Errorf("only %d pairs of terms that differ have the same permutation", same)
	}
}

func TestPromise96SameByHand(t *testing.T) {
	for _, same := range [][]string{
		{"o", ">o", "^>o"},
		{"(o|(o|o))", "((o|o)|o)", ">((o-o)-o)", "^(o|(o|o))", "(o|>(o-o))"},
		{"(o-(o-o))", "((o-o)-o)", ">(o|(o|o))", "^(o-(o-o))"},
		{"((o-o)|o)", ">(o-(o|o))", "^(o|(o-o))", "(>(o|o)|o)", "(^>(o|>o)|o)"},
		// Of these no plan is told.
		{"((((((o|o)|o)|o)|o)|o)|o)", "(o|(o|(o|(o|(o|(o|o))))))", ">(o-(o-(o-(o-(o-(o-o))))))"},
		// One is told and has others with the same permutation, though not the same plan.
		{"((o|o)-(o|o))", ">((o-o)|(o-o))"},
	} {
		for _, s := range same {
			for _, u := range same {
				mustBeSame(t, s, u, true)
			}
			for _, u := range []string{"(o|o)", "(o-o)", "(o|(o-o))", "((o|o)-o)", "(((o|o)|o)|o)", "((((((o-o)-o)-o)-o)-o)-o)"} {
				mustBeSame(t, s, u, false)
			}
			for _, wrong := range noTerms {
				mustBeSame(t, s, wrong, false)
			}
		}
	}
}

// termOfCases are plans and their terms, worked out by hand.
var termOfCases = []struct {
	plan []string
	term string
}{
	{[]string{"a"}, "o"},
	{[]string{"aaaaaa", "aaaaaa", "aaaaaa", "aaaaaa", "aaaaaa", "aaaaaa"}, "o"},
	{[]string{"ab"}, "(o|o)"},
	{[]string{"a", "b", "b"}, "(o-o)"},
	// The first cut is the leftmost or the uppermost one.
	{[]string{"abc"}, "(o|(o|o))"},
	{[]string{"a", "b", "c"}, "(o-(o-o))"},
	{[]string{"ab", "cb"}, "((o-o)|o)"},
	{[]string{"ab", "ac"}, "(o|(o-o))"},
	{[]string{"ab", "cc"}, "((o|o)-o)"},
	{[]string{"aa", "bc"}, "(o-(o|o))"},
	{[]string{"ab", "cb", "cd"}, "((o-o)|(o-o))"},
	{[]string{"aab", "cdd"}, "((o|o)-(o|o))"},
	{[]string{"aabc", "deec", "deef"}, "(((o|o)-(o|o))|(o-o))"},
	{[]string{"abbc", "addc", "eeee"}, "((o|((o-o)|o))-o)"},
	// 7 rooms.
	{[]string{"abcdef", "gggggg"}, "((o|(o|(o|(o|(o|o)))))-o)"},
	{[]string{"aaabcd", "efgggg"}, "((o|(o|(o|o)))-(o|(o|o)))"},
	{[]string{"ab", "cb", "db", "eb", "fb", "gb"}, "((o-(o-(o-(o-(o-o)))))|o)"},
}

func TestPromise97TermOf(t *testing.T) {
	for _, c := range termOfCases {
		s, ok := impl.TermOf(c.plan)
		mustText(t, "TermOf", c.plan)(s, ok, c.term)
	}
	rooms := [8]int{}
	firsts := map[byte]int{}
	for _, p := range orderPlans() {
		many := len(rectsOf(p))
		if many > 7 || stuckIn(p, allOf(p)) != nil {
			mustHaveNoTerm(t, p)
			continue
		}
		rooms[many]++
		text := fallsOf(p, allOf(p))[0].text
		firsts[text[0]]++
		want, _ := termAlong(text)
		s, ok := impl.TermOf(p)
		mustText(t, "TermOf", p)(s, ok, want)
		tidy, ok := impl.TermTidy(s)
		mustText(t, "TermTidy", s)(tidy, ok, s)
		perm, _ := impl.OrderPerm(p)
		same, ok := impl.TermPerm(s)
		mustPerm(t, "TermPerm of "+s)(same, ok, perm)
	}
	if slices.Min(rooms[1:]) < 10 || firsts['v'] < 1000 || firsts['h'] < 1000 {
		t.Errorf("plans by rooms: %v, by first cuts: %v", rooms, firsts)
	}
}

// TestPromise97TermPlan checks that the terms of plans that terms tell differ from these only in how brackets are set.
func TestPromise97TermPlan(t *testing.T) {
	for _, s := range someTerms() {
		p, ok := impl.TermPlan(s)
		if !ok {
			continue
		}
		u, ok := impl.TermOf(p)
		if !ok {
			t.Fatalf("TermOf of %q, which %q tells, fails", p, s)
		}
		mustBeSame(t, s, u, true)
	}
}

func TestPromise97NoTerm(t *testing.T) {
	for _, p := range notPlain() {
		mustHaveNoTerm(t, p)
	}
	for _, p := range [][]string{
		// The wheels, and one in a part.
		{"aab", "cdb", "cee"}, {"abb", "acd", "eed"}, {"aabf", "cdbf", "ceef"}, {"aaa", "bbc", "dec", "dff"},
		// Cuttable with a cross.
		{"ab", "cd"}, {"abe", "cde"}, {"aab", "aab", "ccd"},
		// 8 and 9 rooms, cuttable and plain.
		{"abcdef", "gggggg", "hhhhhh"}, {"abcdef", "ggghhh"}, {"abcdef", "gghhii"}, {"abcd", "eeee", "fghi"},
	} {
		mustHaveNoTerm(t, p)
	}
}

// TestTermsShareNothing checks that results are new, and that a plan stays as it is.
func TestTermsShareNothing(t *testing.T) {
	for _, c := range termCases {
		for range 2 {
			p, _ := impl.TermPlan(c.term)
			for i := range p[:cap(p)] {
				p[:cap(p)][i] = "x"
			}
			mustTell(t, c.term, c.plan)
			perm, _ := impl.TermPerm(c.term)
			for i := range perm[:cap(perm)] {
				perm[:cap(perm)][i] = 99
			}
			perm, ok := impl.TermPerm(c.term)
			mustPerm(t, "TermPerm of "+c.term)(perm, ok, c.perm)
		}
	}
	whole := []string{"ab", "cb", "x"}
	p := slices.Clone(whole)
	s, ok := impl.TermOf(p[:2])
	mustText(t, "TermOf", p[:2])(s, ok, "((o-o)|o)")
	if !slices.Equal(p, whole) {
		t.Errorf("the argument is now %q", p)
	}
}
