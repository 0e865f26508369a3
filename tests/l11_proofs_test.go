package tests

import (
	"slices"
	"strconv"
	"strings"
	"sync"
	"testing"

	"loop.example/closingsticks/impl"
)

// closingProofOf returns the proof about closing of a bundle, by the words of the document.
func closingProofOf(a []int) string {
	if shutsOf(a) {
		return "closes"
	}
	return "open " + strconv.Itoa(a[len(a)-1]-sumOf(a[:len(a)-1]))
}

// oneIf returns 1 if something holds, and 0 otherwise.
func oneIf(holds bool) int {
	if holds {
		return 1
	}
	return 0
}

// spacedText returns the numbers of a list with spaces between.
func spacedText(list []int) string {
	text := ""
	for i, x := range list {
		if i > 0 {
			text += " "
		}
		text += strconv.Itoa(x)
	}
	return text
}

// threesProofs returns for each proof of threes of a bundle the number of threes.
func threesProofs(a []int) map[string]int {
	proofs := map[string]int{}
	if !isBundle(a) {
		return proofs
	}
	for _, list := range partListsOf(a) {
		proofs[spacedText(list)] = len(threeSums(a, list))
	}
	return proofs
}

// spanProofs returns for each proof of a span of a ruler the span.
func spanProofs(a []int) map[string]int {
	proofs := map[string]int{}
	if !isRuler(a) {
		return proofs
	}
	for _, sides := range sidesOf(len(a)) {
		proofs[sides] = spanOf(a, sides)
	}
	return proofs
}

// atLeastThree returns those of some lists that have three numbers at least.
func atLeastThree(lists [][]int) [][]int {
	return slices.DeleteFunc(slices.Clone(lists), func(a []int) bool { return len(a) < 3 })
}

// closingBundles returns bundles of three sticks at least, some of which close just, or
// just not.
func closingBundles() [][]int {
	return atLeastThree(slices.Concat(polygons(), mixedBundles()))
}

// besides returns texts that come by putting something in front of a text, or behind it, or
// by writing its spaces, letters and numbers in another way. A space behind is among them.
func besides(text string) []string {
	all := []string{"", " ", text + text, text + " " + text, strings.ToUpper(text), strings.TrimSuffix(text, "s")}
	marks := []string{" ", "  ", "\n", " \n", "\t", "\r", "\r\n", "\v", "\f", "\x00", "\u00a0", "\u2003", "0", " 0", "-1", " -1", "1", "+", "-", ".", ".0", ",", "r", "l"}
	for _, mark := range marks {
		all = append(all, mark+text, text+mark, mark+text+mark, strings.ReplaceAll(text, " ", mark), strings.ReplaceAll(text, " ", " "+mark))
	}
	for _, number := range []string{"0", "1", "2"} {
		for _, wrong := range []string{"0" + number, "00" + number, "+" + number, "-" + number, "-0" + number, "--" + number, number + "0", number + ".", "_" + number, "0x" + number} {
			all = append(all, strings.ReplaceAll(text, number, wrong), strings.Replace(text, number, wrong, 1))
		}
	}
	return all
}

// nearby returns all texts that come by dropping, putting in or changing one byte of a text.
func nearby(text string) []string {
	var all []string
	for at := range len(text) + 1 {
		for c := range 256 {
			all = append(all, text[:at]+string([]byte{byte(c)})+text[at:])
			if at < len(text) {
				all = append(all, text[:at]+string([]byte{byte(c)})+text[at+1:])
			}
		}
		if at < len(text) {
			all = append(all, text[:at]+text[at+1:])
		}
	}
	return all
}

// textsOf returns all texts of at most so many of some bytes.
func textsOf(bytes string, most int) []string {
	all, last := []string{""}, []string{""}
	for range most {
		var next []string
		for _, s := range last {
			for i := range len(bytes) {
				next = append(next, s+bytes[i:i+1])
			}
		}
		all = append(all, next...)
		last = next
	}
	return all
}

// longTexts returns texts of very many bytes, which prove nothing.
func longTexts() []string {
	const many = 1 << 18
	return []string{
		strings.Repeat("r", many), strings.Repeat("0 ", many) + "0", strings.Repeat("-1 ", many) + "-1", strings.Repeat(" ", many),
		strings.Repeat("0", many), "open " + strings.Repeat("0", many), "open " + strings.Repeat("9", many), strings.Repeat("closes", many),
		"0 0 " + strings.Repeat("0", many), "-1 -1 -" + strings.Repeat("9", many), "open 18446744073709551616", "open 4294967296",
	}
}

// manyTexts returns texts of all kinds, most of which prove nothing.
func manyTexts() []string {
	all := slices.Concat(longTexts(), besides("closes"), besides("open 0"), besides("open 4"), besides("rlr"), besides("0 0 0"), besides("-1 -1 -1"), besides("0 0 0 -1"))
	return append(all, "open", "open ", "open  0", "close", "shuts", "not", "no", "1", "0", "r", "l", "-1", "r l r", "r,l,r", "000", "-1-1-1", "0,0,0", "[0 0 0]", "18446744073709551616 0 0")
}

// checkClose checks ProofCloseIs of a bundle of three sticks at least and a text.
func checkClose(t *testing.T, a []int, text string) {
	t.Helper()
	shuts, ok := impl.ProofCloseIs(a, text)
	if text != closingProofOf(a) {
		if ok || shuts != 0 {
			t.Fatalf("ProofCloseIs of %v and %.80q returned %d, %v", a, text, shuts, ok)
		}
		return
	}
	if !ok || shuts != oneIf(shutsOf(a)) || shuts != oneIf(impl.PolyCloses(a)) {
		t.Fatalf("ProofCloseIs of %v and %.80q returned %d, %v", a, text, shuts, ok)
	}
}

// checkMap checks what is told of a list and a text against the numbers that texts prove.
func checkMap(t *testing.T, name string, call func([]int, string) (int, bool), a []int, text string, proofs map[string]int) {
	t.Helper()
	number, ok := call(a, text)
	want, is := proofs[text]
	if ok != is || number != want {
		t.Fatalf("%s of %v and %.80q returned %d, %v instead of %d, %v", name, a, text, number, ok, want, is)
	}
}

// Promise 98.

func TestPromise98FoldBest(t *testing.T) {
	for _, a := range rulers() {
		best, ok := impl.FoldBest(a)
		if !ok || len(best) != len(a) || best[0] != 'r' {
			t.Errorf("FoldBest of %v returned %q, %v", a, best, ok)
		}
		span, told := impl.FoldSpan(a)
		proved, ok := impl.ProofSpanIs(a, best)
		wantNumber(t, "ProofSpanIs of FoldBest", proved, ok && told, span)
	}
	for _, c := range foldCases() {
		span, ok := impl.ProofSpanIs(c.ruler, c.best)
		wantNumber(t, "ProofSpanIs", span, ok, c.span)
	}
}

// Promise 99.

func TestPromise99ProofClose(t *testing.T) {
	shut := 0
	for _, a := range closingBundles() {
		text, ok := impl.ProofClose(a)
		wantWord(t, "ProofClose", text, ok, closingProofOf(a))
		is, ok := impl.ProofCloseIs(a, text)
		wantNumber(t, "ProofCloseIs of ProofClose", is, ok, oneIf(impl.PolyCloses(a)))
		shut += is
	}
	if shut < 100 || len(closingBundles())-shut < 100 {
		t.Errorf("%d bundles of %d close", shut, len(closingBundles()))
	}
}

// closingCases are bundles of three sticks at least with their proofs, told by hand.
func closingCases() []struct {
	bundle []int
	want   string
} {
	return []struct {
		bundle []int
		want   string
	}{
		{[]int{1, 1, 1}, "closes"},
		{[]int{3, 4, 5}, "closes"},
		{[]int{1, 60, 60}, "closes"},
		{[]int{30, 31, 60}, "closes"},
		{[]int{20, 40, 59}, "closes"},
		{[]int{60, 60, 60}, "closes"},
		{[]int{1, 1, 1, 2}, "closes"},
		{[]int{60, 60, 60, 60, 60, 60, 60, 60, 60}, "closes"},
		{[]int{1, 1, 1, 1, 1, 1, 1, 1, 7}, "closes"},
		// As great as all others together.
		{[]int{1, 1, 2}, "open 0"},
		{[]int{20, 40, 60}, "open 0"},
		{[]int{1, 1, 1, 3}, "open 0"},
		{[]int{1, 1, 1, 1, 1, 1, 1, 1, 8}, "open 0"},
		// Greater than that.
		{[]int{1, 1, 3}, "open 1"},
		{[]int{2, 3, 9}, "open 4"},
		{[]int{1, 2, 12}, "open 9"},
		{[]int{1, 2, 13}, "open 10"},
		{[]int{10, 10, 10, 50}, "open 20"},
		{[]int{1, 1, 1, 1, 1, 1, 1, 1, 60}, "open 52"},
		{[]int{1, 1, 60}, "open 58"},
	}
}

func TestProofCloseEdges(t *testing.T) {
	for _, c := range closingCases() {
		text, ok := impl.ProofClose(c.bundle)
		wantWord(t, "ProofClose", text, ok, c.want)
		is, ok := impl.ProofCloseIs(c.bundle, c.want)
		wantNumber(t, "ProofCloseIs", is, ok, oneIf(c.want == "closes"))
	}
}

// noClosings returns lists that have no proof about closing: no bundles, and short ones.
func noClosings() [][]int {
	return slices.Concat(noBundles(), bundlesOf([]int{1, 2, 3, 30, 59, 60}, 2), oneStick(), [][]int{
		{4, 3, 5}, {5, 4, 3}, {9, 2, 3}, {0, 1, 1}, {0, 5, 5}, {-1, 5, 5}, {1, 1, 61}, {60, 60, 61}, {61, 61, 61},
	})
}

func TestProofCloseInvalid(t *testing.T) {
	for _, a := range noClosings() {
		text, ok := impl.ProofClose(a)
		wantNoWord(t, "ProofClose", text, ok)
	}
	for _, a := range someLists() {
		text, ok := impl.ProofClose(a)
		if isBundle(a) && len(a) >= 3 {
			wantWord(t, "ProofClose", text, ok, closingProofOf(a))
		} else {
			wantNoWord(t, "ProofClose", text, ok)
		}
	}
}

// Promise 100.

func TestPromise100ProofCloseIs(t *testing.T) {
	texts := append(besides("closes"), "closes", "open", "open ", "open -0", "")
	for number := -60; number <= 540; number++ {
		texts = append(texts, "open "+strconv.Itoa(number), "open "+strconv.Itoa(number)+" ", "open 0"+strconv.Itoa(number))
	}
	for _, a := range slices.Concat(atLeastThree(caseBundles()), closingBundles()[:400], atLeastThree(mixedBundles())) {
		for _, text := range texts {
			checkClose(t, a, text)
		}
		for _, text := range besides(closingProofOf(a)) {
			checkClose(t, a, text)
		}
	}
}

func TestProofCloseIsEdges(t *testing.T) {
	for _, c := range closingCases() {
		for _, text := range slices.Concat(nearby("closes"), nearby("open 0"), nearby(c.want), manyTexts()) {
			checkClose(t, c.bundle, text)
		}
	}
	cases := []struct {
		bundle []int
		text   string
	}{
		{[]int{3, 4, 5}, "closes "}, {[]int{3, 4, 5}, " closes"}, {[]int{3, 4, 5}, "closes\n"}, {[]int{3, 4, 5}, "Closes"}, {[]int{3, 4, 5}, ""},
		{[]int{3, 4, 5}, "open 0"}, {[]int{3, 4, 5}, "open 2"}, {[]int{3, 4, 5}, "open -2"}, {[]int{1, 1, 1}, "open -1"}, {[]int{1, 1, 1}, "open 1"},
		{[]int{2, 3, 9}, "closes"}, {[]int{2, 3, 9}, "open 4 "}, {[]int{2, 3, 9}, " open 4"}, {[]int{2, 3, 9}, "open  4"}, {[]int{2, 3, 9}, "open 04"},
		{[]int{2, 3, 9}, "open +4"}, {[]int{2, 3, 9}, "open -4"}, {[]int{2, 3, 9}, "open 3"}, {[]int{2, 3, 9}, "open 5"}, {[]int{2, 3, 9}, "open4"},
		{[]int{2, 3, 9}, "open"}, {[]int{2, 3, 9}, "open "}, {[]int{2, 3, 9}, "4"}, {[]int{2, 3, 9}, "open\t4"}, {[]int{2, 3, 9}, "open 40"},
		{[]int{1, 1, 2}, "closes"}, {[]int{1, 1, 2}, "open -0"}, {[]int{1, 1, 2}, "open 00"}, {[]int{1, 1, 2}, "open"}, {[]int{1, 1, 2}, "open 0 "},
	}
	for _, c := range cases {
		is, ok := impl.ProofCloseIs(c.bundle, c.text)
		wantNoNumber(t, "ProofCloseIs of "+c.text, is, ok)
	}
}

func TestProofCloseIsInvalid(t *testing.T) {
	texts := []string{"", "closes", "closes ", "open", "open ", "open 4"}
	for number := -2; number <= 61; number++ {
		texts = append(texts, "open "+strconv.Itoa(number))
	}
	for _, a := range noClosings() {
		for _, text := range texts {
			is, ok := impl.ProofCloseIs(a, text)
			wantNoNumber(t, "ProofCloseIs of "+text, is, ok)
		}
		for _, text := range manyTexts() {
			is, ok := impl.ProofCloseIs(a, text)
			wantNoNumber(t, "ProofCloseIs", is, ok)
		}
	}
}

// Promise 101.

func TestPromise101ProofSpan(t *testing.T) {
	for _, a := range rulers() {
		text, ok := impl.ProofSpan(a)
		wantWord(t, "ProofSpan", text, ok, bestSidesOf(a))
		best, ok := impl.FoldBest(a)
		wantWord(t, "FoldBest as ProofSpan", best, ok, text)
		span, told := impl.FoldSpan(a)
		proved, ok := impl.ProofSpanIs(a, text)
		wantNumber(t, "ProofSpanIs of ProofSpan", proved, ok && told, span)
	}
}

func TestProofSpanEdges(t *testing.T) {
	for _, c := range foldCases() {
		text, ok := impl.ProofSpan(c.ruler)
		wantWord(t, "ProofSpan", text, ok, c.best)
	}
	for _, a := range noRulers() {
		text, ok := impl.ProofSpan(a)
		wantNoWord(t, "ProofSpan", text, ok)
	}
}

// Promise 102.

func TestPromise102ProofSpanIs(t *testing.T) {
	for _, a := range slices.Concat(oneStick(), listsOf([]int{1, 2, 3, 5, 8, 60}, 3), listsOf([]int{1, 2, 60}, 4), longRulers()) {
		least, told := impl.FoldSpan(a)
		for _, sides := range sidesOf(len(a)) {
			span, ok := impl.ProofSpanIs(a, sides)
			wantNumber(t, "ProofSpanIs of "+sides, span, ok && told, spanOf(a, sides))
			if span < least || !impl.FoldFits(a, span) {
				t.Errorf("ProofSpanIs of %v and %q is %d, FoldSpan %d", a, sides, span, least)
			}
		}
	}
}

func TestProofSpanIsEdges(t *testing.T) {
	cases := []struct {
		ruler []int
		text  string
		want  int
	}{
		{[]int{1}, "r", 1}, {[]int{1}, "l", 1}, {[]int{60}, "l", 60}, {[]int{2, 3}, "rr", 5}, {[]int{2, 3}, "rl", 3}, {[]int{2, 3}, "lr", 3},
		{[]int{2, 3}, "ll", 5}, {[]int{3, 4, 5}, "rlr", 5}, {[]int{3, 4, 5}, "lrl", 5}, {[]int{3, 4, 5}, "rrr", 12}, {[]int{3, 4, 5}, "rrl", 7},
		{[]int{5, 4, 3}, "rll", 7}, {[]int{1, 1, 1, 1, 1, 1, 1, 1, 1}, "lrlrlrlrl", 1},
		{[]int{60, 60, 60, 60, 60, 60, 60, 60, 60}, "rrrrrrrrr", 540}, {[]int{60, 60, 60, 60, 60, 60, 60, 60, 60}, "lllllllll", 540},
	}
	for _, c := range cases {
		span, ok := impl.ProofSpanIs(c.ruler, c.text)
		wantNumber(t, "ProofSpanIs of "+c.text, span, ok, c.want)
		for _, text := range []string{c.text + " ", " " + c.text, c.text + "\n", c.text + "r", c.text + "l", c.text[1:], c.text[1:] + " ", " " + c.text[1:], strings.ToUpper(c.text), c.text + "\x00", ""} {
			span, ok := impl.ProofSpanIs(c.ruler, text)
			if len(text) != len(c.ruler) || strings.Trim(text, "rl") != "" {
				wantNoNumber(t, "ProofSpanIs of "+text, span, ok)
			}
		}
	}
}

func TestProofSpanIsTexts(t *testing.T) {
	small := textsOf("rl R", 6)
	for _, a := range [][]int{{7}, {2, 3}, {3, 2}, {3, 4, 5}, {5, 1, 2, 60}, {1, 2, 3, 4, 5}} {
		for _, text := range small {
			checkMap(t, "ProofSpanIs", impl.ProofSpanIs, a, text, spanProofs(a))
		}
	}
	for _, a := range slices.Concat(longRulers(), [][]int{{7}, {60}, {2, 3}, {3, 4, 5}}) {
		proofs := spanProofs(a)
		best := bestSidesOf(a)
		for _, text := range slices.Concat(nearby(best), besides(best), manyTexts(), nearby(strings.Repeat("l", len(a)))) {
			checkMap(t, "ProofSpanIs", impl.ProofSpanIs, a, text, proofs)
		}
	}
}

func TestProofSpanIsInvalid(t *testing.T) {
	for _, a := range noRulers() {
		for _, letter := range []string{"r", "l", "r ", "rl", "", " "} {
			for _, many := range []int{1, len(a), len(a) + 1} {
				span, ok := impl.ProofSpanIs(a, strings.Repeat(letter, many))
				wantNoNumber(t, "ProofSpanIs", span, ok)
			}
		}
	}
	for _, a := range noRulers()[:100] {
		for _, text := range manyTexts() {
			span, ok := impl.ProofSpanIs(a, text)
			wantNoNumber(t, "ProofSpanIs", span, ok)
		}
	}
}

// Promise 103.

func TestPromise103ProofThrees(t *testing.T) {
	for _, c := range partFacts() {
		text, ok := impl.ProofThrees(c.bundle)
		wantWord(t, "ProofThrees", text, ok, spacedText(c.first))
		most := mustCall(t, "PartMost", impl.PartMost, c.bundle)
		threes, ok := impl.ProofThreesIs(c.bundle, text)
		wantNumber(t, "ProofThreesIs of ProofThrees", threes, ok, most)
	}
}

func TestProofThreesEdges(t *testing.T) {
	cases := []struct {
		bundle []int
		want   string
	}{
		{[]int{1}, "-1"},
		{[]int{60, 60}, "-1 -1"},
		{[]int{1, 1, 1}, "0 0 0"},
		{[]int{1, 2, 3}, "-1 -1 -1"},
		{[]int{2, 2, 3, 9}, "0 0 0 -1"},
		{[]int{2, 2, 2, 2}, "-1 0 0 0"},
		{[]int{1, 1, 3, 3, 3, 3}, "0 1 0 0 1 1"},
		{[]int{1, 1, 1, 3, 3, 9, 9, 9, 9}, "0 0 0 1 2 1 1 2 2"},
		{[]int{1, 1, 2, 3, 5, 8, 13, 21, 34}, "-1 -1 -1 -1 -1 -1 -1 -1 -1"},
	}
	for _, c := range cases {
		text, ok := impl.ProofThrees(c.bundle)
		wantWord(t, "ProofThrees", text, ok, c.want)
	}
	for _, c := range partCases() {
		text, ok := impl.ProofThrees(c.bundle)
		wantWord(t, "ProofThrees", text, ok, spacedText(c.first))
		threes, ok := impl.ProofThreesIs(c.bundle, text)
		wantNumber(t, "ProofThreesIs of "+text, threes, ok, c.most)
	}
}

func TestProofThreesInvalid(t *testing.T) {
	for _, a := range slices.Concat(noBundles(), [][]int{{4, 3, 5}, {5, 4, 3}, {2, 1}, {3, 4, 5, 4}, {60, 60, 61}}) {
		text, ok := impl.ProofThrees(a)
		wantNoWord(t, "ProofThrees", text, ok)
	}
	for _, a := range someLists() {
		text, ok := impl.ProofThrees(a)
		if isBundle(a) {
			wantWord(t, "ProofThrees", text, ok, spacedText(mustFirstParts(t, a)))
		} else {
			wantNoWord(t, "ProofThrees", text, ok)
		}
	}
}

// Promise 104.

func TestPromise104ProofThreesIs(t *testing.T) {
	for _, a := range partBundles() {
		most := mustCall(t, "PartMost", impl.PartMost, a)
		for text, threes := range threesProofs(a) {
			is, ok := impl.ProofThreesIs(a, text)
			wantNumber(t, "ProofThreesIs of "+text, is, ok, threes)
			if is > most || is < 0 {
				t.Errorf("ProofThreesIs of %v and %q is %d, PartMost %d", a, text, is, most)
			}
		}
		// Some of these have a three that is no triangle.
		for _, list := range partShapes()[len(a)] {
			if isPartList(a, list) {
				continue
			}
			is, ok := impl.ProofThreesIs(a, spacedText(list))
			wantNoNumber(t, "ProofThreesIs", is, ok)
		}
	}
}

// threesTexts are texts of the bytes that proofs of threes of a few sticks have.
var threesTexts = sync.OnceValue(func() []string {
	return slices.Concat(textsOf("-01 ", 8), textsOf("0 +2-1", 6), listTexts([]int{-2, -1, 0, 1, 2}, 5))
})

// listTexts returns the texts of all lists of at most so many of some numbers.
func listTexts(numbers []int, most int) []string {
	var all []string
	for many := range most + 1 {
		for _, list := range listsOf(numbers, many) {
			text := spacedText(list)
			all = append(all, text, text+" ", " "+text)
		}
	}
	return all
}

func TestProofThreesIsTexts(t *testing.T) {
	for _, a := range [][]int{{5}, {5, 5}, {3, 4, 5}, {1, 2, 3}, {2, 2, 2, 2}, {2, 2, 3, 9}, {1, 2, 3, 4, 5}} {
		proofs := threesProofs(a)
		for _, text := range threesTexts() {
			checkMap(t, "ProofThreesIs", impl.ProofThreesIs, a, text, proofs)
		}
	}
	for _, c := range partCases() {
		proofs := threesProofs(c.bundle)
		first := spacedText(c.first)
		apart := spacedText(slices.Repeat([]int{-1}, len(c.bundle)))
		for _, text := range slices.Concat(nearby(first), besides(first), nearby(apart), besides(apart), manyTexts()) {
			checkMap(t, "ProofThreesIs", impl.ProofThreesIs, c.bundle, text, proofs)
		}
	}
}

func TestProofThreesIsEdges(t *testing.T) {
	cases := []struct {
		bundle []int
		text   string
		want   int
	}{
		{[]int{5}, "-1", 0}, {[]int{5, 5}, "-1 -1", 0}, {[]int{3, 4, 5}, "0 0 0", 1}, {[]int{3, 4, 5}, "-1 -1 -1", 0},
		{[]int{2, 2, 2, 2}, "-1 0 0 0", 1}, {[]int{2, 2, 2, 2}, "0 0 -1 0", 1}, {[]int{4, 4, 4, 4, 4, 4}, "0 1 1 1 0 0", 2},
		{[]int{4, 4, 4, 4, 4, 4}, "-1 -1 -1 0 0 0", 1}, {[]int{4, 4, 4, 4, 4, 4, 4, 4, 4}, "0 1 2 0 1 2 0 1 2", 3},
		{[]int{1, 1, 1, 1, 1, 1, 1, 1, 1}, "-1 -1 -1 -1 -1 -1 -1 -1 -1", 0},
	}
	for _, c := range cases {
		threes, ok := impl.ProofThreesIs(c.bundle, c.text)
		wantNumber(t, "ProofThreesIs of "+c.text, threes, ok, c.want)
	}
	wrong := []struct {
		bundle []int
		text   string
	}{
		{[]int{5}, ""}, {[]int{5}, "0"}, {[]int{5}, "1"}, {[]int{5}, "-1 "}, {[]int{5}, " -1"}, {[]int{5}, "-01"}, {[]int{5}, "-1 -1"}, {[]int{5}, "-"},
		{[]int{3, 4, 5}, "0 0 0 "}, {[]int{3, 4, 5}, " 0 0 0"}, {[]int{3, 4, 5}, "0  0 0"}, {[]int{3, 4, 5}, "0 0 0\n"}, {[]int{3, 4, 5}, "0\t0 0"},
		{[]int{3, 4, 5}, "0 0 00"}, {[]int{3, 4, 5}, "0 0 -0"}, {[]int{3, 4, 5}, "0 0 +0"}, {[]int{3, 4, 5}, "0 0"}, {[]int{3, 4, 5}, "0 0 0 0"},
		{[]int{3, 4, 5}, "0 0 "}, {[]int{3, 4, 5}, "0 0 0 -1"}, {[]int{3, 4, 5}, "1 1 1"}, {[]int{3, 4, 5}, "-2 -2 -2"}, {[]int{3, 4, 5}, "0,0,0"},
		{[]int{3, 4, 5}, "000"}, {[]int{3, 4, 5}, "0 0 x"}, {[]int{3, 4, 5}, ""}, {[]int{3, 4, 5}, " "}, {[]int{3, 4, 5}, "  "}, {[]int{3, 4, 5}, "0 0 -1"},
		{[]int{3, 4, 5}, "-1 -1 -1 "}, {[]int{3, 4, 5}, "-1 -1 -01"}, {[]int{3, 4, 5}, "-1 -1 --1"}, {[]int{3, 4, 5}, "0 0 18446744073709551616"},
		{[]int{3, 4, 5}, "-1 -1 18446744073709551615"}, {[]int{3, 4, 5}, "0 0 0.0"}, {[]int{3, 4, 5}, "0 0 0x0"}, {[]int{3, 4, 5}, "0_0 0 0"},
		{[]int{1, 2, 3}, "0 0 0"}, {[]int{1, 1, 60}, "0 0 0"}, {[]int{2, 2, 3, 9}, "0 0 -1 0"}, {[]int{2, 2, 3, 9}, "0 0 0 -1 "},
		{[]int{4, 4, 4, 4, 4, 4}, "1 0 0 0 1 1"}, {[]int{4, 4, 4, 4, 4, 4}, "0 0 0 2 2 2"}, {[]int{4, 4, 4, 4, 4, 4}, "0 0 0 0 0 0"},
	}
	for _, c := range wrong {
		threes, ok := impl.ProofThreesIs(c.bundle, c.text)
		wantNoNumber(t, "ProofThreesIs of "+c.text, threes, ok)
	}
}

func TestProofThreesIsInvalid(t *testing.T) {
	for _, a := range slices.Concat(noBundles(), [][]int{{4, 3, 5}, {5, 4, 3}, {0, 3, 3}, {60, 60, 61}}) {
		texts := manyTexts()
		for _, number := range []int{-2, -1, 0, 1} {
			texts = append(texts, spacedText(slices.Repeat([]int{number}, len(a))))
		}
		for _, text := range texts {
			threes, ok := impl.ProofThreesIs(a, text)
			wantNoNumber(t, "ProofThreesIs", threes, ok)
		}
	}
}

// The general rules: no argument changes.

func TestProofMemory(t *testing.T) {
	for _, a := range slices.Concat(caseBundles(), longRulers(), noBundles(), mixedBundles()[:60]) {
		wantOwn(t, "ProofClose and the others", a, func(a []int) []int {
			impl.ProofClose(a)
			impl.ProofSpan(a)
			impl.ProofThrees(a)
			for _, text := range []string{"", "closes", "open 0", "open 4 ", strings.Repeat("r", len(a)), "0 0 0", spacedText(slices.Repeat([]int{-1}, len(a)))} {
				impl.ProofCloseIs(a, text)
				impl.ProofSpanIs(a, text)
				impl.ProofThreesIs(a, text)
			}
			return nil
		})
	}
}
