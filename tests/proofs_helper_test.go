package tests

import (
	"slices"
	"strconv"
	"strings"
	"testing"

	"loop.example/floorrooms/impl"
)

// nestedPlans returns the plans of nine rooms that are a windmill with another one in place of one of its rooms, turned either way:
// no others of so few rooms have several parts that are stuck.
func nestedPlans() [][]string {
	ways := [][]string{{"aab", "cdb", "cee"}, {"abb", "acd", "eed"}}
	var plans [][]string
	for _, outer := range ways {
		for _, inner := range ways {
			for i, r := range rectsOf(outer) {
				plans = append(plans, withoutRepeats(build(9, 9, func(row, column int) byte {
					if outer[row/3][column/3] == byte('a'+i) {
						return inner[(row-3*r.row)/r.high][(column-3*r.column)/r.wide] - 'a' + 'A'
					}
					return outer[row/3][column/3]
				})))
			}
		}
	}
	return plans
}

// withoutRepeats returns rows without those that are the same as the one ahead of them, and likewise for columns.
func withoutRepeats(p []string) []string {
	for range 2 {
		p = trans(slices.Compact(p))
	}
	return p
}

// plansForTexts returns plans for checks of many texts with each one: some of cutPlans, more of them stuck, and the nested ones.
func plansForTexts() [][]string {
	plans := nestedPlans()
	for i, p := range cutPlans() {
		if i%32 == 0 || i%4 == 0 && stuckIn(p, allOf(p)) != nil {
			plans = append(plans, p)
		}
	}
	return plans
}

// eachRect calls a function for each rect of some rows and columns of a plan.
func eachRect(p []string, look func(r rect)) {
	for row := range p {
		for column := range p[0] {
			for high := 1; row+high <= len(p); high++ {
				for wide := 1; column+wide <= len(p[0]); wide++ {
					look(rect{row, column, high, wide})
				}
			}
		}
	}
}

// isOfRooms tells whether all rooms that lie in a rect of a plan end at its sides: none goes on at the other side of one.
func isOfRooms(p []string, r rect) bool {
	return (r.column == 0 || differAll(p, rect{r.row, r.column, r.high, 1}, 0, -1)) &&
		(r.row == 0 || differAll(p, rect{r.row, r.column, 1, r.wide}, -1, 0)) &&
		(r.column+r.wide == len(p[0]) || differAll(p, rect{r.row, r.column + r.wide - 1, r.high, 1}, 0, 1)) &&
		(r.row+r.high == len(p) || differAll(p, rect{r.row + r.high - 1, r.column, 1, r.wide}, 1, 0))
}

// cutProofs returns all proofs about the cuts of a plan, with the number that is told of each one.
func cutProofs(p []string) map[string]int {
	proofs := map[string]int{}
	if falls := fallsOf(p, allOf(p)); len(falls) > 0 {
		proofs["cut "+falls[0].text] = 1
	}
	eachRect(p, func(r rect) {
		if !isOfRooms(p, r) {
			return
		}
		letters := lettersIn(p, r)
		if _, halves := halvesOf(p, r); len(letters) > 1 && len(halves) == 0 {
			proofs["stuck "+string(letters)] = 0
		}
	})
	return proofs
}

// cutProof returns the proof about the cuts of a plan that ProofCut must tell.
func cutProof(p []string) string {
	rooms := stuckIn(p, allOf(p))
	if rooms == nil {
		return "cut " + fallsOf(p, allOf(p))[0].text
	}
	text := "stuck "
	for _, room := range rooms {
		text += string(rune('a' + room))
	}
	return text
}

// lettersOf returns the letters of a set of the rooms of a plan, in order.
func lettersOf(set, rooms int) string {
	letters := ""
	for room := range rooms {
		if set>>room&1 == 1 {
			letters += string(rune('a' + room))
		}
	}
	return letters
}

// breaksOf returns all proofs that a permutation is not fair, in the order of j, i and k, by what the document says of its places.
func breaksOf(p []int) []string {
	var proofs []string
	for j := range p {
		for i := range j {
			for k := j + 2; k < len(p); k++ {
				outer := []int{p[i], p[k]}
				down := p[j] > slices.Max(outer) && p[j+1] < slices.Min(outer) && p[i] < p[k]
				up := p[j] < slices.Min(outer) && p[j+1] > slices.Max(outer) && p[i] > p[k]
				if down || up {
					proofs = append(proofs, "break "+digitsOf(i, j, k))
				}
			}
		}
	}
	return proofs
}

// foursOf returns all proofs that a permutation is not loose, in the order of places: of each four numbers, the second one and the third one
// are the greatest and the least one, in some order, and the first one is nearer to the third one, as the last one is to the second one.
func foursOf(p []int) []string {
	var proofs []string
	for a := range p {
		for b := a + 1; b < len(p); b++ {
			for c := b + 1; c < len(p); c++ {
				for d := c + 1; d < len(p); d++ {
					down := p[c] < p[a] && p[a] < p[d] && p[d] < p[b]
					up := p[b] < p[d] && p[d] < p[a] && p[a] < p[c]
					if down || up {
						proofs = append(proofs, "four "+digitsOf(a, b, c, d))
					}
				}
			}
		}
	}
	return proofs
}

// digitsOf returns numbers as text, with a space between each two.
func digitsOf(numbers ...int) string {
	var texts []string
	for _, x := range numbers {
		texts = append(texts, strconv.Itoa(x))
	}
	return strings.Join(texts, " ")
}

// digitTexts returns a word and each list of so many digits, each one behind a space.
func digitTexts(word string, many int) []string {
	texts := []string{word}
	for range many {
		var longer []string
		for _, text := range texts {
			for digit := range 10 {
				longer = append(longer, text+" "+strconv.Itoa(digit))
			}
		}
		texts = longer
	}
	return texts
}

// misspelt returns texts that are not a proof but for a byte, for the space behind its word, or for what is in front or behind it.
func misspelt(proof string) []string {
	word, rest, _ := strings.Cut(proof, " ")
	texts := []string{
		"", " ", "\n", word, word + " ", " " + rest, rest, word + rest, word + "  " + rest, word + "\t" + rest, word + "\n" + rest, word + "\u00a0" + rest,
		" " + proof, proof + " ", "\n" + proof, proof + "\n", proof + "\x00", "\ufeff" + proof, proof + proof, proof + " " + proof, word + " " + proof,
		strings.ToUpper(word) + " " + rest, strings.ToUpper(word[:1]) + word[1:] + " " + rest, word + "s " + rest, word[1:] + " " + rest, word[:1] + " " + rest,
		word + ": " + rest, word + " (" + rest + ")", word + ` "` + rest + `"`, word + " " + rest + ".", strings.ReplaceAll(proof, " ", ","), strings.ReplaceAll(proof, " ", ""),
		strings.ReplaceAll(proof, " ", "  "), word + " " + strings.Join(strings.Split(rest, ""), " "), word + strings.Repeat(" ", 1000) + rest, proof + strings.Repeat("a", 1000), proof + strings.Repeat(" 0", 1000),
	}
	for _, other := range []string{"cut", "stuck", "break", "four", "proof", "no", "twist", ""} {
		if other != word {
			texts = append(texts, other+" "+rest)
		}
	}
	return append(texts, changedTexts(proof)...)
}

// longTexts are as long as no proof is.
var longTexts = []string{
	strings.Repeat(" ", 1<<20), strings.Repeat("cut ", 1<<20), strings.Repeat("stuck ", 1<<20), "stuck " + strings.Repeat("abcde", 1<<20), "cut A" + strings.Repeat("A", 1<<20),
	"stuck abcde" + strings.Repeat(" ", 1<<20), "break" + strings.Repeat(" 0", 1<<20), "break 0 1 3" + strings.Repeat(" 0", 1<<20), "four" + strings.Repeat(" 0", 1<<20), "four 0 1 2 3" + strings.Repeat(" ", 1<<20),
}

// changedTexts returns a text with one byte more, one less, or one that is another one.
func changedTexts(text string) []string {
	var texts []string
	for at := range len(text) + 1 {
		for _, sign := range "aeijABEJvhs0189 -+/:`\x00\n" {
			texts = append(texts, text[:at]+string(sign)+text[at:])
			if at < len(text) && text[at] != byte(sign) {
				texts = append(texts, text[:at]+string(sign)+text[at+1:])
			}
		}
		if at < len(text) {
			texts = append(texts, text[:at]+text[at+1:])
		}
	}
	return texts
}

// mustProve checks ProofCutIs of a plan and a text against all proofs that there are.
func mustProve(t *testing.T, p []string, text string, proofs map[string]int) {
	t.Helper()
	want, is := proofs[text]
	if got, ok := impl.ProofCutIs(p, text); got != want || ok != is {
		t.Fatalf("ProofCutIs of %q, %q: %d, %v, not %d, %v", p, text[:min(len(text), 99)], got, ok, want, is)
	}
}

// mustShow checks ProofFairIs and ProofLooseIs of a list and a text.
func mustShow(t *testing.T, p []int, text string, unfair, notLoose bool) {
	t.Helper()
	if got := impl.ProofFairIs(p, text); got != unfair {
		t.Fatalf("ProofFairIs of %v, %q: %v", p, text[:min(len(text), 99)], got)
	}
	if got := impl.ProofLooseIs(p, text); got != notLoose {
		t.Fatalf("ProofLooseIs of %v, %q: %v", p, text[:min(len(text), 99)], got)
	}
}

// mustTellFirst takes a proof that a function returned for a permutation and holds it against all that there are; without any it must have failed.
func mustTellFirst(t *testing.T, what string, p []int) func(got string, ok bool, all []string) {
	return func(got string, ok bool, all []string) {
		t.Helper()
		want := ""
		if len(all) > 0 {
			want = all[0]
		}
		if got != want || ok != (len(all) > 0) {
			t.Fatalf("%s of %v: %q, %v, not %q", what, p, got, ok, want)
		}
	}
}
