package tests

import (
	"slices"
	"strings"
	"sync"
	"testing"

	"loop.example/floorrooms/impl"
)

// The helpers here never read a term as a whole: they change its text step by step, as the document writes it.

// isTerm tells whether a text is a term: parts that are terms, whatever they are, become one room until nothing else is left.
func isTerm(s string) bool {
	if len(s) > 60 || strings.Count(s, "o") > 7 {
		return false
	}
	for {
		next := s
		for _, part := range []string{">o", "^o", "(o|o)", "(o-o)"} {
			next = strings.ReplaceAll(next, part, "o")
		}
		if next == s {
			return s == "o"
		}
		s = next
	}
}

// termEnd returns where the term ends that begins at a byte of a text: behind its first room without open brackets.
func termEnd(s string, at int) int {
	open := 0
	for {
		switch s[at] {
		case '(':
			open++
		case ')':
			open--
		}
		at++
		if open == 0 && (s[at-1] == 'o' || s[at-1] == ')') {
			return at
		}
	}
}

// inBrackets returns both terms in the brackets with which a text begins, the sign between them, and what is behind the brackets.
func inBrackets(s string) (first, sign, second, rest string) {
	middle := termEnd(s, 1)
	end := termEnd(s, middle+1)
	return s[1:middle], s[middle : middle+1], s[middle+1 : end], s[end+1:]
}

// tidied returns the tidy term, by the rules of the document: the last sign in front is moved until there is none.
func tidied(s string) string {
	for {
		at := strings.LastIndexAny(s, ">^")
		if at < 0 {
			return s
		}
		if s[at+1] == 'o' {
			s = s[:at] + s[at+1:]
			continue
		}
		first, sign, second, rest := inBrackets(s[at+1:])
		moved := map[string]string{
			">|": "(>" + first + "->" + second + ")",
			">-": "(>" + second + "|>" + first + ")",
			"^|": "(^" + second + "|^" + first + ")",
			"^-": "(^" + first + "-^" + second + ")",
		}
		s = s[:at] + moved[s[at:at+1]+sign] + rest
	}
}

// moveLeft moves the first brackets to the left that a term on the right of the same sign begins with, and reports whether there are some.
func moveLeft(s string) (string, bool) {
	for at := range len(s) {
		if s[at] != '(' {
			continue
		}
		first, sign, second, rest := inBrackets(s[at:])
		if second == "o" {
			continue
		}
		if third, same, fourth, _ := inBrackets(second); same == sign {
			return s[:at] + "((" + first + sign + third + ")" + sign + fourth + ")" + rest, true
		}
	}
	return s, false
}

// leftened returns the term that comes of a tidy one by moving brackets to the left.
func leftened(s string) string {
	for more := true; more; {
		s, more = moveLeft(s)
	}
	return s
}

// drawn returns the rows that a term tells, however many they are, with letters from one on for the rooms as the text has them.
func drawn(s string, letter byte) []string {
	switch s[0] {
	case 'o':
		return []string{string(letter)}
	case '>':
		return upsideTurned(drawn(s[1:], letter))
	case '^':
		var rows []string
		for _, row := range drawn(s[1:], letter) {
			rows = append(rows, string(backwards([]byte(row))))
		}
		return rows
	}
	first, sign, second, _ := inBrackets(s)
	a, b := drawn(first, letter), drawn(second, letter+byte(strings.Count(first, "o")))
	if sign == "-" {
		// Columns are repeated as rows are.
		return columnsOf(besideDrawn(columnsOf(a), columnsOf(b)))
	}
	return besideDrawn(a, b)
}

// besideDrawn returns rows beside others, as many as both together less 1.
func besideDrawn(a, b []string) []string {
	high := len(a) + len(b) - 1
	for len(a) < high {
		a = append(a, a[len(a)-1])
	}
	for len(b) < high {
		b = append([]string{b[0]}, b...)
	}
	var rows []string
	for row := range high {
		rows = append(rows, a[row]+b[row])
	}
	return rows
}

// columnsOf returns the columns of rows, with the letters as they are.
func columnsOf(rows []string) []string {
	columns := make([]string, len(rows[0]))
	for _, row := range rows {
		for i := range row {
			columns[i] += row[i : i+1]
		}
	}
	return columns
}

// upsideTurned returns the columns of rows, read from below.
func upsideTurned(rows []string) []string {
	return columnsOf(upsideDown(rows))
}

// planTold returns the plan that a term tells, and none if this would be no plan.
func planTold(s string) []string {
	p := rename(drawn(s, 'a'))
	if !isPlan(p) {
		return nil
	}
	return p
}

// waysTo returns, for each two rooms of a term, in which direction the second one lies from the first one: columns to the right and rows down.
func waysTo(s string) [][][2]int {
	if s == "o" {
		return [][][2]int{{{0, 0}}}
	}
	if s[0] != '(' {
		ways := waysTo(s[1:])
		for _, to := range ways {
			for i, way := range to {
				to[i] = [2]int{-way[0], way[1]}
				if s[0] == '>' {
					to[i] = [2]int{-way[1], way[0]}
				}
			}
		}
		return ways
	}
	first, sign, second, _ := inBrackets(s)
	there, back := [2]int{1, 0}, [2]int{-1, 0}
	if sign == "-" {
		there, back = [2]int{0, 1}, [2]int{0, -1}
	}
	var ways [][][2]int
	a, b := waysTo(first), waysTo(second)
	for _, to := range a {
		ways = append(ways, append(to, slices.Repeat([][2]int{there}, len(b))...))
	}
	for _, to := range b {
		ways = append(ways, append(slices.Repeat([][2]int{back}, len(a)), to...))
	}
	return ways
}

// permTold returns the permutation of a term by the directions of its rooms: those left of one or above it are ahead of it in the first order,
// those left of it or below it in the second one.
func permTold(s string) []int {
	ways := waysTo(s)
	perm := make([]int, len(ways))
	for _, to := range ways {
		first, second := 0, 0
		for _, way := range to {
			if way == [2]int{-1, 0} || way == [2]int{0, -1} {
				first++
			}
			if way == [2]int{-1, 0} || way == [2]int{0, 1} {
				second++
			}
		}
		perm[second] = first
	}
	return perm
}

// termAlong returns the term of the cut text with which a text begins, and what is behind it.
func termAlong(text string) (term, rest string) {
	sign := map[byte]string{'v': "|", 'h': "-"}[text[0]]
	if sign == "" {
		return "o", text[1:]
	}
	first, rest := termAlong(text[1:])
	second, rest := termAlong(rest)
	return "(" + first + sign + second + ")", rest
}

// tidyTerms returns all terms without signs in front, by their rooms from 0 on to 7. It is made once.
var tidyTerms = sync.OnceValue(func() [][]string {
	terms := [][]string{nil, {"o"}}
	for rooms := 2; rooms <= 7; rooms++ {
		var all []string
		for many := 1; many < rooms; many++ {
			for _, first := range terms[many] {
				for _, second := range terms[rooms-many] {
					all = append(all, "("+first+"|"+second+")", "("+first+"-"+second+")")
				}
			}
		}
		terms = append(terms, all)
	}
	return terms
})

// signedTerms returns all terms of up to three rooms with one sign or none in front of each term in them, and all those of up to two rooms with up to three.
func signedTerms() []string {
	one := signedUpTo(3, 1)
	return append(one, signedUpTo(2, 3)...)
}

// signedUpTo returns all terms of up to so many rooms with up to so many signs in front of each term in them.
func signedUpTo(rooms, signs int) []string {
	fronts := []string{""}
	for i := 0; len(fronts[i]) < signs; i++ {
		fronts = append(fronts, fronts[i]+">", fronts[i]+"^")
	}
	terms := make([][]string, rooms+1)
	for many := 1; many <= rooms; many++ {
		bare := []string{"o"}
		if many > 1 {
			bare = nil
		}
		for of := 1; of < many; of++ {
			for _, first := range terms[of] {
				for _, second := range terms[many-of] {
					bare = append(bare, "("+first+"|"+second+")", "("+first+"-"+second+")")
				}
			}
		}
		for _, front := range fronts {
			for _, s := range bare {
				terms[many] = append(terms[many], front+s)
			}
		}
	}
	return slices.Concat(terms...)
}

// scatteredTerms returns terms of up to 7 rooms with signs in front here and there, up to 60 bytes, the same ones each time.
func scatteredTerms(many int) []string {
	state := uint32(7)
	next := func(n int) int {
		state = state*1664525 + 1013904223
		return int(state>>8) % n
	}
	var terms []string
	for i := range many {
		of := tidyTerms()[1+i%7]
		s := of[next(len(of))]
		for signs := next(61 - len(s)); signs > 0; signs-- {
			at := next(len(s))
			for s[at] != 'o' && s[at] != '(' {
				at = next(len(s))
			}
			s = s[:at] + string(">^"[next(2)]) + s[at:]
		}
		terms = append(terms, s)
	}
	return terms
}

// someTerms returns terms for the promises: all without signs in front, all small ones with a few, and many with up to 60 bytes. It is made once.
var someTerms = sync.OnceValue(func() []string {
	terms := append(slices.Concat(tidyTerms()...), signedTerms()...)
	return append(terms, scatteredTerms(4000)...)
})

// noTerms are texts that are no terms.
var noTerms = []string{
	// Nothing, a part of a term, or more than one.
	"", ">", "^", ">>", "(", ")", "|", "-", "()", "(|)", "(o)", "((o))", "(>o)", "oo", "o|o", "o-o", "|o", "o|", "-o", "(o|o|o)", "(o-o-o)", "(o|)", "(|o)", "(o-)", "(-o)",
	"(oo)", "(o(o|o))", "((o|o)o)", "(o|o)(o|o)", "(o|o)|o", "o|(o|o)", "()o", "o()", "(o||o)", "(o|-o)", "(o--o)",
	// Brackets that are not closed, or closed twice.
	"(o", "(o|", "(o|o", "(o-o", "((o|o)", "((o|o)|o", "((o-o)|(o-o)", "(o|(o-o)", "(o|o))", "(o-o))", "o)", "((o|o)))", "((o|o))", ">(o|o))", "(o|(o-o)))", ")o(", ")o|o(",
	// Signs in front where there are none.
	"o>", "o^", "(o>o)", "(o^o)", "(>|o)", "(o|^)", "(o>|o)", "(o|o>)", "(o|o)>", ">(>|>)", "(^o|o^)", "(o|>)",
	// Other signs, letters and brackets.
	"O", "a", "x", "0", "ö", "(o/o)", "(o+o)", "(o_o)", "(o=o)", "(o*o)", "(o\\o)", "(o&o)", "(ovo)", "(oho)", "(o|a)", "(a|o)", "(O|o)", "<o", "vo", "~o", "!o", "-o", "[o|o]", "{o|o}", "<o|o>", "(o|o]", "[o|o)",
	"(o\x00o)", "\x00", "\x00o", "o\x00", "(o|o\x00", "(o|o)\x00", "\xff", ">\xff", "(o|\xff)", "(o–o)", "(o¦o)", "（o|o）", "ˆo", "＞o",
	// Spaces and ends of lines.
	" ", " o", "o ", "> o", "(o |o)", "(o| o)", "( o|o)", "(o|o )", "(o|o) ", " (o|o)", "o\n", "\no", "(o|o)\n", "\to", "o\r",
	// Bytes behind a term.
	"oo", "o(", "oa", "o0", "(o|o)o", "(o|o)a", "(o|o)(", "(o|o)|", "(o|o)-", ">o>", "^oo",
	// 8 rooms and more.
	"(((((((o|o)|o)|o)|o)|o)|o)|o)", "(o-(o-(o-(o-(o-(o-(o-o)))))))", "(((o|o)-(o|o))|((o|o)-(o|o)))", ">((((o|o)|o)|o)|(((o|o)|o)|o))",
	"((((((((o|o)|o)|o)|o)|o)|o)|o)|o)", "((((((((((((((o|o)|o)|o)|o)|o)|o)|o)|o)|o)|o)|o)|o)|o)|o)", "oooooooo",
	// 61 bytes and more.
	strings.Repeat(">", 60) + "o", strings.Repeat("^", 60) + "o", strings.Repeat(">", 56) + "(o|o)", "(" + strings.Repeat("^", 56) + "o|o)", "(o|o)" + strings.Repeat(" ", 56),
	strings.Repeat(">", 61) + "o", strings.Repeat(">", 255) + "o", strings.Repeat("^", 256) + "o", strings.Repeat(">", 316) + "o",
	strings.Repeat(">", 1<<22) + "o", strings.Repeat("(", 1<<22), strings.Repeat("(", 1<<22) + "o" + strings.Repeat("|o)", 1<<22), strings.Repeat("o", 1000),
	// As many bytes as there may be.
	strings.Repeat(">", 60), strings.Repeat("(", 60), strings.Repeat("o", 60), strings.Repeat(">", 58) + "oo",
}

// mustText takes a text that a function returned for a term or a plan and holds it against what it must be.
func mustText(t *testing.T, what string, of any) func(got string, ok bool, want string) {
	return func(got string, ok bool, want string) {
		t.Helper()
		if !ok || got != want {
			t.Fatalf("%s of %q: %q, %v, not %q", what, of, got, ok, want)
		}
	}
}

// mustTell checks TermPlan, which fails if the plan is none.
func mustTell(t *testing.T, s string, want []string) {
	t.Helper()
	if got, ok := impl.TermPlan(s); ok != (want != nil) || !slices.Equal(got, want) {
		t.Fatalf("TermPlan of %q: %q, %v, not %q", s, got, ok, want)
	}
}

// mustBeSame checks TermSame of two terms, in both ways.
func mustBeSame(t *testing.T, s, u string, want bool) {
	t.Helper()
	if got, back := impl.TermSame(s, u), impl.TermSame(u, s); got != want || back != want {
		t.Fatalf("TermSame of %q, %q: %v, and %v for both exchanged", s, u, got, back)
	}
}

// mustBeNoTerm checks that nothing is told of a text.
func mustBeNoTerm(t *testing.T, s string) {
	t.Helper()
	short := s[:min(len(s), 99)]
	if impl.TermIn(s) {
		t.Fatalf("TermIn of %q holds", short)
	}
	if rooms, ok := impl.TermRooms(s); ok || rooms != 0 {
		t.Fatalf("TermRooms of %q: %d, %v, not a failure", short, rooms, ok)
	}
	if p, ok := impl.TermPlan(s); ok || len(p) != 0 {
		t.Fatalf("TermPlan of %q: %q, %v, not a failure", short, p, ok)
	}
	if perm, ok := impl.TermPerm(s); ok || len(perm) != 0 {
		t.Fatalf("TermPerm of %q: %v, %v, not a failure", short, perm, ok)
	}
	if u, ok := impl.TermTidy(s); ok || u != "" {
		t.Fatalf("TermTidy of %q: %q, %v, not a failure", short, u, ok)
	}
	if u, ok := impl.TermLeft(s); ok || u != "" {
		t.Fatalf("TermLeft of %q: %q, %v, not a failure", short, u, ok)
	}
	if impl.TermSame(s, s) || impl.TermSame(s, "o") || impl.TermSame("o", s) || impl.TermSame(s, "(o|o)") || impl.TermSame("(o|o)", s) {
		t.Fatalf("TermSame of %q holds", short)
	}
}

// mustHaveNoTerm checks that TermOf fails for a list.
func mustHaveNoTerm(t *testing.T, p []string) {
	t.Helper()
	if s, ok := impl.TermOf(p); ok || s != "" {
		t.Fatalf("TermOf of %q: %q, %v, not a failure", p, s, ok)
	}
}
