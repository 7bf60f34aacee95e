package tests

import (
	"slices"
	"strings"
	"testing"

	"loop.example/floorrooms/impl"
)

// proofCase is what is known by hand of the proofs about the cuts of a plan: all of them, the one that is told first, and texts that are none.
type proofCase struct {
	plan   []string
	proofs []string
	none   []string
}

var proofCases = []proofCase{
	// One room.
	{[]string{"a"}, []string{"cut A"}, []string{"cut a", "cut B", "cut AA", "cut vAA", "cut", "cut ", "stuck a", "stuck A", "stuck ", "stuck"}},
	{[]string{"aaa", "aaa"}, []string{"cut A"}, []string{"cut vAA", "cut hAA", "stuck a", "stuck aa"}},
	// One row or one column: the first cut comes first.
	{[]string{"ab"}, []string{"cut vAB"}, []string{"cut vBA", "cut hAB", "cut VAB", "cut vab", "cut A", "cut AB", "stuck ab", "stuck a", "stuck b", "stuck ba"}},
	{[]string{"a", "b"}, []string{"cut hAB"}, []string{"cut hBA", "cut vAB", "stuck ab"}},
	{[]string{"abc"}, []string{"cut vAvBC"}, []string{"cut vvABC", "cut vAvCB", "cut vAhBC", "cut vABC", "cut vAvBCD", "stuck abc", "stuck ac", "stuck bc"}},
	{[]string{"a", "a", "b", "c", "d"}, []string{"cut hAhBhCD"}, []string{"cut hhABhCD", "cut hhhABCD", "cut hhAhBCD", "cut hAhhBCD", "stuck abcd"}},
	{[]string{"abcdef"}, []string{"cut vAvBvCvDvEF"}, []string{"cut vvvvvABCDEF", "cut vvAvBCvDvEF", "stuck abcdef", "stuck cd"}},
	// Crosses: upright cuts come first; no part is stuck.
	{[]string{"ab", "cd"}, []string{"cut vhAChBD"}, []string{"cut hvABvCD", "cut vhCAhBD", "cut vhBDhAC", "cut vhABhCD", "stuck abcd", "stuck ad", "stuck bc", "stuck ac"}},
	{[]string{"aab", "ccd", "eef"}, []string{"cut vhAhCEhBhDF"}, []string{"cut hvABhvCDvEF", "cut vhhACEhBhDF", "stuck abcdef"}},
	{nine, []string{"cut vhAhDGvhBhEHhChFI"}, []string{"cut hvAvBChvDvEFvGvHI", "stuck abcdefghi", "stuck abde", "stuck e"}},
	// Windmills, both ways round.
	{[]string{"aab", "cdb", "cee"}, []string{"stuck abcde"},
		[]string{"stuck abced", "stuck edcba", "stuck aabcde", "stuck abcdee", "stuck abcd", "stuck bcde", "stuck abce", "stuck abcdef", "stuck ABCDE", "stuck 01234", "stuck a b c d e", "stuck ad", "stuck d", "cut ABCDE", "cut vABCDE", "cut vhvhABCDE"}},
	{[]string{"abb", "acd", "eed"}, []string{"stuck abcde"}, []string{"stuck acbde", "stuck abcd", "stuck abcdef", "cut"}},
	// A cross in the middle of a windmill has cuts by itself.
	{[]string{"aaab", "cdeb", "cfgb", "chhh"}, []string{"stuck abcdefgh"}, []string{"stuck defg", "stuck dg", "stuck abch", "stuck abcdefg", "stuck abcdefhg"}},
	// A windmill in the middle of one: the part that is found first is not the only one.
	{[]string{"aaaab", "cddeb", "cfgeb", "cfhhb", "ciiii"}, []string{"stuck abcdefghi", "stuck defgh"}, []string{"stuck edfgh", "stuck hgfed", "stuck ddefgh", "stuck defg", "stuck defghi", "stuck abci", "stuck g"}},
	// A windmill in place of a room of one.
	{[]string{"aabc", "debc", "dffc", "gghc", "ggii"}, []string{"stuck abcdefghi", "stuck abdef"}, []string{"stuck abcdef", "stuck abdefg", "stuck cghi", "stuck baedf", "stuck gh"}},
	// Windmills ahead of a cut and behind it: all has a cut, and so has what is cut off, if more rooms than one.
	{[]string{"aabc", "debc", "dffc"}, []string{"stuck abdef"}, []string{"stuck abcdef", "stuck abedf", "stuck abde", "stuck c", "cut vABC"}},
	{[]string{"abbc", "adec", "adff"}, []string{"stuck bcdef"}, []string{"stuck abcdef", "stuck bcdfe", "stuck acdef", "stuck bcdefa"}},
	{[]string{"aab", "cdb", "cee", "fff"}, []string{"stuck abcde"}, []string{"stuck abcdef", "stuck ef", "stuck abcdf"}},
	{[]string{"aabcd", "efbcd", "eggch", "eggch"}, []string{"stuck abefg"}, []string{"stuck abcefg", "stuck cdh", "stuck dh", "stuck abcdefgh", "stuck baefg"}},
}

func TestProofsOfCutsByHand(t *testing.T) {
	for _, c := range proofCases {
		text, ok := impl.ProofCut(c.plan)
		mustText(t, "ProofCut", c.plan)(text, ok, c.proofs[0])
		proofs := map[string]int{}
		for _, proof := range c.proofs {
			if proofs[proof] = 0; strings.HasPrefix(proof, "cut") {
				proofs[proof] = 1
			}
		}
		for _, s := range append(c.proofs, c.none...) {
			mustProve(t, c.plan, s, proofs)
		}
	}
}

// showCase is what is known by hand of a permutation: all proofs that it is not fair and all that it is not loose, in order.
type showCase struct {
	perm          []int
	breaks, fours []string
}

var showCases = []showCase{
	{perm: []int{0}},
	{perm: []int{1, 0}},
	{perm: []int{2, 0, 1}},
	{perm: []int{0, 1, 2, 3}},
	{perm: []int{1, 3, 2, 0}},
	{perm: []int{6, 5, 4, 3, 2, 1, 0}},
	{perm: []int{2, 3, 0, 1, 5, 6, 4}},
	{[]int{1, 3, 0, 2}, []string{"break 0 1 3"}, []string{"four 0 1 2 3"}},
	{[]int{2, 0, 3, 1}, []string{"break 0 1 3"}, []string{"four 0 1 2 3"}},
	// Fair ones that are not loose: the permutations of windmills.
	{[]int{1, 4, 2, 0, 3}, nil, []string{"four 0 1 3 4"}},
	{[]int{3, 0, 2, 4, 1}, nil, []string{"four 0 1 3 4"}},
	{[]int{5, 1, 4, 2, 0, 3, 6}, nil, []string{"four 1 2 4 5"}},
	// Others that have a number in the middle are not fair.
	{[]int{1, 2, 4, 0, 3}, []string{"break 0 2 4", "break 1 2 4"}, []string{"four 0 2 3 4", "four 1 2 3 4"}},
	{[]int{1, 4, 0, 2, 3}, []string{"break 0 1 3", "break 0 1 4"}, []string{"four 0 1 2 3", "four 0 1 2 4"}},
	// Breaks with the same places in the middle: the first place goes first, then the last one.
	{[]int{1, 3, 5, 0, 2, 4}, []string{"break 0 2 4", "break 0 2 5", "break 1 2 5"},
		[]string{"four 0 1 3 4", "four 0 2 3 4", "four 0 2 3 5", "four 1 2 3 5", "four 1 2 4 5"}},
	// The place in the middle goes ahead of the first one, and of the first four.
	{[]int{1, 4, 2, 5, 0, 3}, []string{"break 1 2 5", "break 0 3 5", "break 2 3 5"},
		[]string{"four 0 1 4 5", "four 0 3 4 5", "four 1 2 3 5", "four 2 3 4 5"}},
	{[]int{2, 4, 1, 3, 5, 6, 0}, []string{"break 0 1 3"}, []string{"four 0 1 2 3"}},
	{[]int{6, 0, 1, 3, 5, 2, 4}, []string{"break 3 4 6"}, []string{"four 3 4 5 6"}},
}

func TestProofsOfPermsByHand(t *testing.T) {
	for _, c := range showCases {
		text, ok := impl.ProofFair(c.perm)
		mustTellFirst(t, "ProofFair", c.perm)(text, ok, c.breaks)
		text, ok = impl.ProofLoose(c.perm)
		mustTellFirst(t, "ProofLoose", c.perm)(text, ok, c.fours)
		for _, s := range append(digitTexts("break", 3), digitTexts("four", 4)...) {
			mustShow(t, c.perm, s, slices.Contains(c.breaks, s), slices.Contains(c.fours, s))
		}
	}
}

func TestHelperProofs(t *testing.T) {
	for _, c := range proofCases {
		proofs := cutProofs(c.plan)
		if !isPlan(c.plan) || cutProof(c.plan) != c.proofs[0] || len(proofs) != len(c.proofs) {
			t.Errorf("%q: %q, %v", c.plan, cutProof(c.plan), proofs)
		}
		for _, s := range c.none {
			if _, ok := proofs[s]; ok || slices.Contains(c.proofs, s) {
				t.Errorf("%q is a proof of %q", s, c.plan)
			}
		}
	}
	for _, c := range showCases {
		if !isPerm(c.perm) || !slices.Equal(breaksOf(c.perm), c.breaks) || !slices.Equal(foursOf(c.perm), c.fours) {
			t.Errorf("%v: %q, %q", c.perm, breaksOf(c.perm), foursOf(c.perm))
		}
	}
	// What the proofs show is so, as the helpers of other chapters know it.
	cuttable, stuck, several := 0, 0, 0
	for _, p := range append(cutPlans(), nestedPlans()...) {
		proofs, is := cutProofs(p), stuckIn(p, allOf(p)) == nil
		for _, told := range proofs {
			if (told == 1) != is {
				t.Fatalf("%q: %v", p, proofs)
			}
		}
		switch {
		case len(proofs) == 0 || is && len(proofs) > 1:
			t.Fatalf("%q: %v", p, proofs)
		case is:
			cuttable++
		case len(proofs) == 1:
			stuck++
		default:
			several++
		}
	}
	if cuttable < 5000 || stuck < 2000 || several != 20 {
		t.Errorf("%d plans are cuttable, %d are not by one proof, and %d by several", cuttable, stuck, several)
	}
	for _, p := range nestedPlans() {
		if !isPlan(p) || len(rectsOf(p)) != impl.RoomMax || len(cutProofs(p)) != 2 {
			t.Errorf("%q: %v", p, cutProofs(p))
		}
	}
	for _, p := range allPerms() {
		if breaks, fours := breaksOf(p), foursOf(p); isFair(p) != (len(breaks) == 0) || isLoose(p) != (len(fours) == 0) {
			t.Fatalf("%v: %q, %q", p, breaks, fours)
		}
	}
}

func TestPromise98ProofCut(t *testing.T) {
	for _, p := range append(cutPlans(), nestedPlans()...) {
		text, ok := impl.ProofCut(p)
		mustText(t, "ProofCut", p)(text, ok, cutProof(p))
		told, ok := impl.ProofCutIs(p, text)
		if !ok || (told == 1) != impl.CutIs(p) || told != 0 && told != 1 {
			t.Fatalf("ProofCut of %q: %q, and ProofCutIs of it: %d, %v", p, text, told, ok)
		}
		// Chapter 3 tells what is behind the word.
		if cut, ok := impl.CutText(p); ok && text != "cut "+cut {
			t.Fatalf("ProofCut of %q: %q", p, text)
		}
		if rooms, ok := impl.CutStuck(p); ok && (!strings.HasPrefix(text, "stuck ") || len(text) != len("stuck ")+len(rooms)) {
			t.Fatalf("ProofCut of %q: %q", p, text)
		}
	}
}

func TestPromise99EachPlanHasAProof(t *testing.T) {
	for _, p := range cutPlans() {
		if _, ok := impl.ProofCut(p); !ok {
			t.Fatalf("ProofCut of %q fails", p)
		}
	}
	for _, p := range noPlans() {
		if text, ok := impl.ProofCut(p); ok || text != "" {
			t.Fatalf("ProofCut of %q: %q, %v, not a failure", p, text, ok)
		}
	}
}

// TestPromise100AllRooms checks the letters of each set of rooms of many plans, and of one room more than there is.
func TestPromise100AllRooms(t *testing.T) {
	found := 0
	for _, p := range plansForTexts() {
		proofs := cutProofs(p)
		rooms := len(rectsOf(p))
		for set := range 1 << (rooms + 1) {
			s := "stuck " + lettersOf(set, rooms+1)
			mustProve(t, p, s, proofs)
			if _, ok := proofs[s]; ok {
				found++
			}
		}
	}
	if found < 1000 {
		t.Errorf("only %d sets of rooms are proofs", found)
	}
}

// TestPromise100AnotherOrder checks that rooms in another order, or one of them twice, are no proof.
func TestPromise100AnotherOrder(t *testing.T) {
	for _, p := range plansForTexts() {
		proofs := cutProofs(p)
		for proof, told := range proofs {
			word, letters, _ := strings.Cut(proof, " ")
			for at := range len(letters) {
				for behind := at + 1; behind < len(letters); behind++ {
					swapped := []byte(letters)
					swapped[at], swapped[behind] = swapped[behind], swapped[at]
					mustProve(t, p, word+" "+string(swapped), proofs)
				}
				mustProve(t, p, word+" "+letters[at:]+letters[:at], proofs)
				mustProve(t, p, word+" "+letters[:at]+letters[at:at+1]+letters[at:], proofs)
				mustProve(t, p, word+" "+letters+letters[at:at+1], proofs)
			}
			mustProve(t, p, word+" "+string(backwards([]byte(letters))), proofs)
			if got, ok := impl.ProofCutIs(p, proof); got != told || !ok {
				t.Fatalf("ProofCutIs of %q, %q: %d, %v", p, proof, got, ok)
			}
		}
	}
}

// TestPromise100AllWays checks that of all ways to cut a plan the text of the first one alone is a proof.
func TestPromise100AllWays(t *testing.T) {
	others := 0
	for _, p := range cutPlans() {
		falls := fallsOf(p, allOf(p))
		for _, f := range falls {
			told, ok := impl.ProofCutIs(p, "cut "+f.text)
			if is := f.text == falls[0].text; ok != is || (told == 1) != is {
				t.Fatalf("ProofCutIs of %q, %q: %d, %v", p, "cut "+f.text, told, ok)
			}
			if f.text != falls[0].text {
				others++
			}
		}
	}
	if others < 10000 {
		t.Errorf("only %d ways are others than the first one", others)
	}
}

// TestPromise100OtherPlans checks the proofs of plans with all other small ones.
func TestPromise100OtherPlans(t *testing.T) {
	var plans [][]string
	for _, s := range [][2]int{{1, 1}, {1, 3}, {2, 2}, {3, 1}, {2, 3}, {3, 3}} {
		plans = append(plans, fillPlans(s[0], s[1])...)
	}
	for _, c := range proofCases {
		plans = append(plans, c.plan)
	}
	texts := map[string]bool{}
	for _, p := range plans {
		for proof := range cutProofs(p) {
			texts[proof] = true
		}
	}
	for _, p := range plans {
		proofs := cutProofs(p)
		for text := range texts {
			mustProve(t, p, text, proofs)
		}
	}
}

// TestPromise100WrongTexts checks texts that are a proof but for a byte or two.
func TestPromise100WrongTexts(t *testing.T) {
	for _, c := range proofCases {
		proofs := cutProofs(c.plan)
		for proof := range proofs {
			for _, s := range misspelt(proof) {
				mustProve(t, c.plan, s, proofs)
			}
		}
		for _, s := range append(digitTexts("stuck", 2), "break 0 1 3", "four 0 1 2 3", "cut \xff", "stuck \xff", "stuck \u0430") {
			mustProve(t, c.plan, s, proofs)
		}
		for _, s := range longTexts {
			mustProve(t, c.plan, s, nil)
		}
	}
}

func TestPromise100NoPlan(t *testing.T) {
	texts := []string{"", " ", "cut", "cut ", "cut A", "cut B", "cut a", "cut vAB", "cut vBA", "cut hAB", "cut vAvBC", "cut Z", "stuck", "stuck ", "stuck a", "stuck ab", "stuck abcde", "stuck ABCDE", "break 0 1 3"}
	for _, p := range noPlans() {
		for _, s := range texts {
			mustProve(t, p, s, nil)
		}
	}
}

func TestPromise101ProofFair(t *testing.T) {
	ordered := 0
	for _, p := range allPerms() {
		breaks := breaksOf(p)
		text, ok := impl.ProofFair(p)
		mustTellFirst(t, "ProofFair", p)(text, ok, breaks)
		if !ok {
			continue
		}
		if !impl.ProofFairIs(p, text) || impl.PermFair(p) {
			t.Fatalf("ProofFair of %v: %q", p, text)
		}
		if slices.Min(breaks) != text {
			ordered++
		}
	}
	if ordered < 60 {
		t.Errorf("only %d permutations have a first proof that is not so by its first place", ordered)
	}
}

// TestPromise102ProofFairIs checks all lists of three digits with all permutations.
func TestPromise102ProofFairIs(t *testing.T) {
	texts := digitTexts("break", 3)
	for _, p := range allPerms() {
		breaks, found := breaksOf(p), 0
		for _, s := range texts {
			if !impl.ProofFairIs(p, s) {
				continue
			}
			if found++; !slices.Contains(breaks, s) || impl.PermFair(p) || impl.PermLoose(p) {
				t.Fatalf("ProofFairIs of %v, %q holds", p, s)
			}
		}
		if found != len(breaks) {
			t.Fatalf("ProofFairIs of %v holds for %d texts, not %d", p, found, len(breaks))
		}
	}
}

func TestPromise103ProofLoose(t *testing.T) {
	for _, p := range allPerms() {
		fours := foursOf(p)
		text, ok := impl.ProofLoose(p)
		mustTellFirst(t, "ProofLoose", p)(text, ok, fours)
		if ok && (!impl.ProofLooseIs(p, text) || impl.PermLoose(p)) {
			t.Fatalf("ProofLoose of %v: %q", p, text)
		}
	}
}

// TestPromise104ProofLooseIs checks lists of four digits: all with permutations of up to 5 numbers and some of more, and with all others those that might be.
func TestPromise104ProofLooseIs(t *testing.T) {
	all := digitTexts("four", 4)
	var likely []string
	for _, s := range all {
		if digits := s[len("four "):]; !strings.ContainsAny(digits, "89") && slices.IsSorted(strings.Split(digits, " ")) {
			likely = append(likely, s)
		}
	}
	for i, p := range allPerms() {
		texts := likely
		if len(p) <= 5 || i%50 == 0 {
			texts = all
		}
		fours, found := foursOf(p), 0
		for _, s := range texts {
			if !impl.ProofLooseIs(p, s) {
				continue
			}
			if found++; !slices.Contains(fours, s) || impl.PermLoose(p) {
				t.Fatalf("ProofLooseIs of %v, %q holds", p, s)
			}
		}
		if found != len(fours) {
			t.Fatalf("ProofLooseIs of %v holds for %d texts, not %d", p, found, len(fours))
		}
	}
}

// TestPromise104WrongTexts checks texts that are a proof about a permutation but for a byte or two, and those with other words, more places or less.
func TestPromise104WrongTexts(t *testing.T) {
	for _, c := range showCases {
		for _, proof := range slices.Concat(c.breaks, c.fours, []string{"break 0 1 3", "four 0 1 2 3"}) {
			for _, s := range misspelt(proof) {
				mustShow(t, c.perm, s, slices.Contains(c.breaks, s), slices.Contains(c.fours, s))
			}
			_, places, _ := strings.Cut(proof, " ")
			numbers := strings.Split(places, " ")
			for at, number := range numbers {
				for _, other := range []string{"0" + number, number + "0", "1" + number, "+" + number, "-" + number, number + ".", "", " ", "-1", "-0", "7", "10", "99999999999999999999", "18446744073709551616", "\u0663", "\uff11", "x", "0x1", "1e0", "a"} {
					wrong := slices.Clone(numbers)
					wrong[at] = other
					for _, word := range []string{"break", "four"} {
						s := word + " " + strings.Join(wrong, " ")
						mustShow(t, c.perm, s, slices.Contains(c.breaks, s), slices.Contains(c.fours, s))
					}
				}
			}
		}
		for _, s := range slices.Concat(digitTexts("break", 0), digitTexts("break", 1), digitTexts("break", 2), digitTexts("break", 4), digitTexts("four", 0), digitTexts("four", 1), digitTexts("four", 2), digitTexts("four", 3)) {
			mustShow(t, c.perm, s, false, false)
		}
		for _, s := range []string{"four 0 1 2 3 4", "four 0 1 3 4 5", "break 0 1 2 3 4", "break 0 1 3 break 0 1 3", "stuck abcde", "cut A"} {
			mustShow(t, c.perm, s, false, false)
		}
	}
	for _, s := range longTexts {
		mustShow(t, []int{1, 3, 0, 2}, s, false, false)
	}
}

// TestPromise105BothWays checks that there is a first proof exactly if there is something to be shown.
func TestPromise105BothWays(t *testing.T) {
	for _, p := range allPerms() {
		if text, ok := impl.ProofFair(p); ok == impl.PermFair(p) || ok != (text != "") {
			t.Fatalf("ProofFair of %v: %q, %v", p, text, ok)
		}
		if text, ok := impl.ProofLoose(p); ok == impl.PermLoose(p) || ok != (text != "") {
			t.Fatalf("ProofLoose of %v: %q, %v", p, text, ok)
		}
	}
}

func TestPromise105NoPerm(t *testing.T) {
	texts := append(digitTexts("break", 3), digitTexts("four", 4)...)
	for _, p := range noPerms() {
		if text, ok := impl.ProofFair(p); ok || text != "" {
			t.Fatalf("ProofFair of %v: %q, %v, not a failure", p, text, ok)
		}
		if text, ok := impl.ProofLoose(p); ok || text != "" {
			t.Fatalf("ProofLoose of %v: %q, %v, not a failure", p, text, ok)
		}
		for _, s := range texts {
			mustShow(t, p, s, false, false)
		}
	}
}

// TestProofsOfPlansAndPerms checks that a plain plan is proved not to be cuttable exactly if its permutation is proved not to be loose.
func TestProofsOfPlansAndPerms(t *testing.T) {
	for _, p := range orderPlans() {
		perm := permOf(p)
		if len(perm) > 7 {
			continue
		}
		text, _ := impl.ProofCut(p)
		four, ok := impl.ProofLoose(perm)
		if ok != strings.HasPrefix(text, "stuck ") {
			t.Fatalf("ProofCut of %q: %q, and ProofLoose of %v: %q", p, text, perm, four)
		}
		if unfair, ok := impl.ProofFair(perm); ok {
			t.Fatalf("ProofFair of %v, which is that of %q: %q", perm, p, unfair)
		}
	}
}

// TestProofsShareNothing checks that lists that were given are as they were.
func TestProofsShareNothing(t *testing.T) {
	for _, c := range proofCases {
		p := slices.Clone(c.plan)
		impl.ProofCut(p)
		for _, s := range c.proofs {
			impl.ProofCutIs(p, s)
		}
		if !slices.Equal(p, c.plan) {
			t.Fatalf("%q became %q", c.plan, p)
		}
	}
	for _, c := range showCases {
		p := slices.Clone(c.perm)
		impl.ProofFair(p)
		impl.ProofLoose(p)
		for _, s := range append(c.breaks, c.fours...) {
			impl.ProofFairIs(p, s)
			impl.ProofLooseIs(p, s)
		}
		if !slices.Equal(p, c.perm) {
			t.Fatalf("%v became %v", c.perm, p)
		}
	}
}
