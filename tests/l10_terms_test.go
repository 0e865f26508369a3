package tests

import (
	"math/big"
	"slices"
	"strings"
	"sync"
	"testing"

	"loop.example/closingsticks/impl"
)

// The limits are written out here, so that a changed constant is noticed.
const (
	termMax = 60
	walkMax = 200
)

// walkLetters and walkDigits are the letters and digits of terms.
const (
	walkLetters = "nesw"
	walkDigits  = "23456789"
)

// term is a text that is a term by the way it is made, the number of letters of its walk,
// and the walk itself if this is not too long.
type term struct {
	text   string
	length *big.Int
	walk   string
}

// long tells whether the walk of a term has too many letters.
func (m term) long() bool {
	return m.length.Cmp(big.NewInt(walkMax)) > 0
}

// letterTerm returns the term of one letter.
func letterTerm(letter byte) term {
	return term{string(letter), big.NewInt(1), string(letter)}
}

// backTerm returns a term with - in front.
func backTerm(m term) term {
	return term{"-" + m.text, m.length, backWalk(m.walk)}
}

// turnTerm returns a term with @ in front.
func turnTerm(m term) term {
	return term{"@" + m.text, m.length, changed(m.walk, "enws", "nwse")}
}

// digitTerm returns a term with a digit in front.
func digitTerm(digit byte, m term) term {
	times := int(digit - '0')
	made := term{text: string(digit) + m.text, length: new(big.Int).Mul(big.NewInt(int64(times)), m.length)}
	if !made.long() {
		made.walk = strings.Repeat(m.walk, times)
	}
	return made
}

// joinTerm returns the term of two terms.
func joinTerm(m term, n term) term {
	made := term{text: "(" + m.text + "+" + n.text + ")", length: new(big.Int).Add(m.length, n.length)}
	if !made.long() {
		made.walk = m.walk + n.walk
	}
	return made
}

// changed returns a text with each letter of one text changed to that of another one at the
// same place.
func changed(s string, from string, to string) string {
	made := []byte(s)
	for i, c := range made {
		made[i] = to[strings.IndexByte(from, c)]
	}
	return string(made)
}

// backWalk returns a walk gone backwards.
func backWalk(walk string) string {
	made := []byte(changed(walk, "nesw", "swne"))
	slices.Reverse(made)
	return string(made)
}

// termsOf returns for each number of bytes up to most all terms with letters and digits of
// two texts.
func termsOf(letters string, digits string, most int) [][]term {
	all := make([][]term, most+1)
	for size := 1; size <= most; size++ {
		if size == 1 {
			for i := range letters {
				all[size] = append(all[size], letterTerm(letters[i]))
			}
		}
		for _, m := range all[size-1] {
			all[size] = append(all[size], backTerm(m), turnTerm(m))
			for i := range digits {
				all[size] = append(all[size], digitTerm(digits[i], m))
			}
		}
		for first := 1; first <= size-4; first++ {
			for _, m := range all[first] {
				for _, n := range all[size-3-first] {
					all[size] = append(all[size], joinTerm(m, n))
				}
			}
		}
	}
	return all
}

// randomNumbers returns a function that gives numbers less than its argument, the same ones
// in each run.
func randomNumbers() func(int) int {
	state := uint64(10)
	return func(n int) int {
		state = state*6364136223846793005 + 1442695040888963407
		return int(state>>33) % n
	}
}

// randomTerm returns a term of so many bytes; one of many has more digits than one of few.
func randomTerm(random func(int) int, size int, many int) term {
	if size == 1 {
		return letterTerm(walkLetters[random(len(walkLetters))])
	}
	if size >= 5 && random(4) > 0 {
		first := 1 + random(size-4)
		return joinTerm(randomTerm(random, first, many), randomTerm(random, size-3-first, many))
	}
	inner := randomTerm(random, size-1, many)
	switch kind := random(10); {
	case kind < many:
		return digitTerm(walkDigits[random(len(walkDigits))], inner)
	case kind%2 == 0:
		return backTerm(inner)
	}
	return turnTerm(inner)
}

// longTerms returns terms of walks of more than 200 letters, some of them with a number of
// letters that is small if only 64 or 32 bits of it are kept.
func longTerms() []term {
	var all []term
	one := letterTerm('e')
	grown := one
	for range termMax - 1 {
		grown = digitTerm('9', grown)
		all = append(all, grown)
	}
	for _, letter := range []byte(walkLetters) {
		for _, digit := range []byte("248") {
			m := letterTerm(letter)
			for range termMax - 5 {
				m = digitTerm(digit, m)
				all = append(all, m, joinTerm(m, one), joinTerm(one, m), backTerm(m), turnTerm(m))
			}
		}
	}
	closed := joinTerm(letterTerm('n'), letterTerm('s'))
	for range termMax - 5 {
		closed = digitTerm('7', closed)
		all = append(all, closed)
	}
	for letters := walkMax + 1; letters <= 1000; letters++ {
		all = append(all, sizedTerm(letters))
	}
	return slices.DeleteFunc(all, func(m term) bool { return !m.long() })
}

// sizedTerm returns a term of a walk of so many letters.
func sizedTerm(letters int) term {
	if letters == 1 {
		return letterTerm('n')
	}
	digit := min(9, letters)
	m := digitTerm(byte('0'+digit), sizedTerm(letters/digit))
	if letters%digit > 0 {
		m = joinTerm(sizedTerm(letters%digit), m)
	}
	return m
}

// smallTerms are all terms of few bytes.
var smallTerms = sync.OnceValue(func() []term {
	return slices.Concat(
		slices.Concat(termsOf(walkLetters, walkDigits, 4)...),
		slices.Concat(termsOf("ne", "3", 7)...),
		slices.Concat(termsOf("e", "2", 9)...))
})

// greatTerms are terms of up to 60 bytes, and of all numbers of letters up to some.
var greatTerms = sync.OnceValue(func() []term {
	random := randomNumbers()
	all := longTerms()
	for i := range 12000 {
		size := 1 + i%termMax
		all = append(all, randomTerm(random, size, i/termMax%4))
	}
	for letters := 1; letters <= walkMax; letters++ {
		all = append(all, sizedTerm(letters))
	}
	return all
})

// someTerms are all of them.
var someTerms = sync.OnceValue(func() []term {
	return slices.Concat(smallTerms(), greatTerms())
})

// walkEnd returns the end of a walk, told by the numbers of its letters.
func walkEnd(walk string) (int, int) {
	return strings.Count(walk, "e") - strings.Count(walk, "w"), strings.Count(walk, "n") - strings.Count(walk, "s")
}

// walkArea returns twice the area of a walk, point by point.
func walkArea(walk string) int {
	area := 0
	for i := range walk {
		x, y := walkEnd(walk[:i])
		nextX, nextY := walkEnd(walk[:i+1])
		area += x*nextY - y*nextX
	}
	return area
}

// walkTurns returns how often a walk turns to the left, to the right and round.
func walkTurns(walk string) [3]int {
	turns := [3]int{}
	for i := range len(walk) - 1 {
		switch walk[i : i+2] {
		case "en", "nw", "ws", "se":
			turns[0]++
		case "ne", "wn", "sw", "es":
			turns[1]++
		case "ew", "ns", "we", "sn":
			turns[2]++
		}
	}
	return turns
}

// termSplit returns the two terms within the brackets with which a text begins, and what is
// behind these.
func termSplit(text string) (string, string, string) {
	plus, depth := 0, 0
	for i := range text {
		switch text[i] {
		case '(':
			depth++
		case '+':
			if depth == 1 {
				plus = i
			}
		case ')':
			depth--
			if depth == 0 {
				return text[1:plus], text[plus+1 : i], text[i+1:]
			}
		}
	}
	return "", "", ""
}

// tidyText moves the signs of a term inwards, the last one first, by the document's words.
func tidyText(text string) string {
	for {
		at := strings.LastIndexAny(text, "-@")
		if at < 0 {
			return text
		}
		ahead, sign, rest := text[:at], text[at:at+1], text[at+1:]
		switch c := rest[0]; {
		case c == '(':
			first, second, behind := termSplit(rest)
			if sign == "-" {
				first, second = second, first
			}
			text = ahead + "(" + sign + first + "+" + sign + second + ")" + behind
		case strings.IndexByte(walkDigits, c) >= 0:
			text = ahead + rest[:1] + sign + rest[1:]
		case sign == "-":
			text = ahead + changed(rest[:1], "nesw", "swne") + rest[1:]
		default:
			text = ahead + changed(rest[:1], "enws", "nwse") + rest[1:]
		}
	}
}

// noTerms returns texts that are no terms, each for one reason.
func noTerms() []string {
	return []string{
		"", " ", "x", "N", "E", "S", "W", "0", "1", "2", "9", "-", "@", "--", "-@", "29", "+", "(", ")", "()", "\n", "\x00",
		"nn", "ne", "n ", " n", "n\n", "n\x00", "\x00n", "n-", "n@", "n2", "2 n", "- n", "0n", "1n", ":n", "/n", "10n", "02n",
		"n+e", "n+", "+n", "(n", "n)", "(n)", "(n+", "(n+)", "(+n)", "(n+e", "n+e)", "(n+e))", "((n+e)", "(n+e)(", "(n+e)n",
		"(n+e+s)", "(n-e)", "(n e)", "(ne)", "(n++e)", "(n+e-)", "(-+n)", "(n+2)", "(2+n)", "2(n)", "-(n)", "()n", "(n+e)+n",
		"[n+e]", "{n+e}", "(n,e)", "((n+e)+s", "(n+(e+s)", "(n+e+(s+w))", "((n+e))", "((n)+e)", "(n+e)-", "(n+e)2",
		"\xff", "n\xff", "\xffn", "é", "né", "ｎ", "−n", "２n", "(n＋e)", "*n", "~n", ",n", ".n", "A@n", "m", "o", "d", "f", "r", "t", "v",
		strings.Repeat("-", termMax), strings.Repeat("n", termMax), strings.Repeat("(", termMax),
		strings.Repeat("-", termMax) + "n", strings.Repeat("@", termMax) + "n", strings.Repeat("2", termMax) + "n",
		"(" + strings.Repeat("-", termMax-4) + "n+e)", strings.Repeat("(n+", 15) + "s" + strings.Repeat(")", 15),
		strings.Repeat("(", 1<<20), strings.Repeat("-", 1<<20) + "n", strings.Repeat("9", 1<<20) + "n", strings.Repeat("n", 1<<20),
		strings.Repeat("(n+", 1<<18) + "n" + strings.Repeat(")", 1<<18),
	}
}

// termCase is a term and what is told of it by hand.
type termCase struct {
	text, walk, tidy string
	end              [2]int
	area             int
	turns            [3]int
}

// termCases are terms with what is told of them by hand.
func termCases() []termCase {
	return []termCase{
		{text: "n", walk: "n", tidy: "n", end: [2]int{0, 1}},
		{text: "e", walk: "e", tidy: "e", end: [2]int{1, 0}},
		{text: "s", walk: "s", tidy: "s", end: [2]int{0, -1}},
		{text: "w", walk: "w", tidy: "w", end: [2]int{-1, 0}},
		{text: "-n", walk: "s", tidy: "s", end: [2]int{0, -1}},
		{text: "-e", walk: "w", tidy: "w", end: [2]int{-1, 0}},
		{text: "-s", walk: "n", tidy: "n", end: [2]int{0, 1}},
		{text: "-w", walk: "e", tidy: "e", end: [2]int{1, 0}},
		{text: "@e", walk: "n", tidy: "n", end: [2]int{0, 1}},
		{text: "@n", walk: "w", tidy: "w", end: [2]int{-1, 0}},
		{text: "@w", walk: "s", tidy: "s", end: [2]int{0, -1}},
		{text: "@s", walk: "e", tidy: "e", end: [2]int{1, 0}},
		{text: "--n", walk: "n", tidy: "n", end: [2]int{0, 1}},
		{text: "@@@@n", walk: "n", tidy: "n", end: [2]int{0, 1}},
		{text: "@@@n", walk: "e", tidy: "e", end: [2]int{1, 0}},
		{text: "-@n", walk: "e", tidy: "e", end: [2]int{1, 0}},
		{text: "2n", walk: "nn", tidy: "2n", end: [2]int{0, 2}},
		{text: "9w", walk: "wwwwwwwww", tidy: "9w", end: [2]int{-9, 0}},
		{text: "-2@n", walk: "ee", tidy: "2e", end: [2]int{2, 0}},
		{text: "23n", walk: "nnnnnn", tidy: "23n", end: [2]int{0, 6}},
		{"(e+n)", "en", "(e+n)", [2]int{1, 1}, 1, [3]int{1, 0, 0}},
		{"(n+e)", "ne", "(n+e)", [2]int{1, 1}, -1, [3]int{0, 1, 0}},
		{"(n+s)", "ns", "(n+s)", [2]int{0, 0}, 0, [3]int{0, 0, 1}},
		{"-(e+2n)", "ssw", "(2s+w)", [2]int{-1, -2}, -2, [3]int{0, 1, 0}},
		{"@(e+2n)", "nww", "(n+2w)", [2]int{-2, 1}, 2, [3]int{1, 0, 0}},
		{"2-(e+n)", "swsw", "2(s+w)", [2]int{-2, -2}, -2, [3]int{1, 2, 0}},
		{"(2e+(n+(2w+s)))", "eenwws", "(2e+(n+(2w+s)))", [2]int{0, 0}, 4, [3]int{3, 0, 0}},
		{"-(2e+(n+(2w+s)))", "neesww", "(((n+2e)+s)+2w)", [2]int{0, 0}, -4, [3]int{0, 3, 0}},
		{"((e+n)+@@(e+n))", "enws", "((e+n)+(w+s))", [2]int{0, 0}, 2, [3]int{3, 0, 0}},
		{"2((e+n)+@@(e+n))", "enwsenws", "2((e+n)+(w+s))", [2]int{0, 0}, 4, [3]int{7, 0, 0}},
		{"3(e+n)", "enenen", "3(e+n)", [2]int{3, 3}, 3, [3]int{3, 2, 0}},
		{"4(n+-n)", "nsnsnsns", "4(n+s)", [2]int{0, 0}, 0, [3]int{0, 0, 7}},
		{"((9e+9n)+-9(e+n))", "eeeeeeeeennnnnnnnnswswswswswswswswsw", "((9e+9n)+9(s+w))", [2]int{0, 0}, 72, [3]int{9, 9, 1}},
	}
}

// wantTriple checks the results of a function that returns three numbers.
func wantTriple(t *testing.T, name string, s string, want [3]int) {
	t.Helper()
	left, right, round, ok := impl.TermTurns(s)
	if got := [3]int{left, right, round}; !ok || got != want {
		t.Errorf("%s of %q returned %v, %v instead of %v, true", name, s, got, ok, want)
	}
}

// wantNoTriple checks that a function that returns three numbers failed.
func wantNoTriple(t *testing.T, name string, s string) {
	t.Helper()
	left, right, round, ok := impl.TermTurns(s)
	if got := [3]int{left, right, round}; ok || got != [3]int{} {
		t.Errorf("%s of %.80q returned %v, %v instead of nothing, false", name, s, got, ok)
	}
}

// wantNoWalk checks that all functions that fail for walks that are too long fail for a text.
func wantNoWalk(t *testing.T, s string) {
	t.Helper()
	length, ok := impl.TermLength(s)
	wantNoNumber(t, "TermLength", length, ok)
	walk, ok := impl.TermWalk(s)
	wantNoWord(t, "TermWalk", walk, ok)
	x, y, ok := impl.TermEnd(s)
	wantNoPair(t, "TermEnd", x, y, ok)
	area, ok := impl.TermArea(s)
	wantNoNumber(t, "TermArea", area, ok)
	wantNoTriple(t, "TermTurns", s)
	if impl.TermCloses(s) {
		t.Errorf("TermCloses of %.80q holds", s)
	}
	if impl.TermSame(s, s) || impl.TermSame(s, "n") || impl.TermSame("n", s) {
		t.Errorf("TermSame of %.80q holds", s)
	}
}

// shortTerms are those of the terms whose walks are not too long.
var shortTerms = sync.OnceValue(func() []term {
	return slices.DeleteFunc(slices.Clone(someTerms()), term.long)
})

// mustWalk returns TermWalk of a term.
func mustWalk(t *testing.T, s string) string {
	t.Helper()
	walk, ok := impl.TermWalk(s)
	if !ok {
		t.Fatalf("TermWalk of %q failed", s)
	}
	return walk
}

// Promise 89.

func TestPromise89TermIn(t *testing.T) {
	for _, m := range someTerms() {
		if !impl.TermIn(m.text) {
			t.Errorf("TermIn of %q does not hold", m.text)
		}
		told := len(m.text) < termMax
		if impl.TermIn("-"+m.text) != told || impl.TermIn("2"+m.text) != told || impl.TermIn("@"+m.text) != told {
			t.Errorf("TermIn of %q with a sign or digit in front is not %v", m.text, told)
		}
		if impl.TermIn(m.text+")") || impl.TermIn(m.text+"(") || impl.TermIn("("+m.text) || impl.TermIn("("+m.text+")") {
			t.Errorf("TermIn of %q with a bracket holds", m.text)
		}
	}
}

// checkIn checks TermIn of all texts of some bytes against all terms, up to a number of bytes.
func checkIn(t *testing.T, bytes string, terms [][]term) {
	t.Helper()
	is := map[string]bool{}
	for _, m := range slices.Concat(terms...) {
		is[m.text] = true
	}
	last := len(terms) - 1
	var check func(s string)
	check = func(s string) {
		if impl.TermIn(s) != is[s] {
			t.Errorf("TermIn of %q is not %v", s, is[s])
		}
		for i := 0; i < len(bytes) && len(s) < last; i++ {
			check(s + bytes[i:i+1])
		}
	}
	check("")
}

func TestTermInAllTexts(t *testing.T) {
	checkIn(t, walkLetters+walkDigits+"-@(+)01N .", termsOf(walkLetters, walkDigits, 4))
	checkIn(t, "n2-(+)", termsOf("n", "2", 8))
	every := make([]byte, 256)
	for i := range every {
		every[i] = byte(i)
	}
	for _, c := range every {
		is := strings.IndexByte(walkLetters, c) >= 0
		sign := strings.IndexByte(walkDigits+"-@", c) >= 0
		one, front := string([]byte{c}), string([]byte{c, 'n'})
		if impl.TermIn(one) != is || impl.TermIn(front) != sign || impl.TermIn("2"+one) != is || impl.TermIn("-"+front) != sign {
			t.Errorf("TermIn with the byte %d is not told right", c)
		}
		behind, plus := string([]byte{'n', c}), string([]byte{'(', 'n', c, 'n', ')'})
		bracket, closed := string([]byte{c, 'n', '+', 'n', ')'}), string([]byte{'(', 'n', '+', 'n', c})
		if impl.TermIn(behind) || impl.TermIn(plus) != (c == '+') || impl.TermIn(bracket) != (c == '(') || impl.TermIn(closed) != (c == ')') {
			t.Errorf("TermIn with the byte %d within is not told right", c)
		}
	}
}

func TestTermInEdges(t *testing.T) {
	for _, s := range noTerms() {
		if impl.TermIn(s) {
			t.Errorf("TermIn of %.80q holds", s)
		}
	}
	for _, sign := range []string{"-", "@", "2", "9"} {
		most := strings.Repeat(sign, termMax-1) + "n"
		if !impl.TermIn(most) || impl.TermIn(sign+most) {
			t.Errorf("TermIn of 60 and 61 bytes with %s is not told right", sign)
		}
	}
	deep := strings.Repeat("(n+", 14) + "---s" + strings.Repeat(")", 14)
	if len(deep) != termMax || !impl.TermIn(deep) || impl.TermIn("-"+deep) {
		t.Errorf("TermIn of %q is not told right", deep)
	}
}

// Promise 90.

func TestPromise90TermLength(t *testing.T) {
	for _, m := range shortTerms() {
		length, ok := impl.TermLength(m.text)
		wantNumber(t, "TermLength", length, ok, int(m.length.Int64()))
		if length != len(mustWalk(t, m.text)) || length < 1 || length > walkMax {
			t.Errorf("TermLength of %q is %d", m.text, length)
		}
		twice, told := impl.TermLength("2" + m.text)
		if len(m.text) < termMax && 2*length <= walkMax {
			wantNumber(t, "TermLength with 2 in front", twice, told, 2*length)
		} else {
			wantNoNumber(t, "TermLength with 2 in front", twice, told)
		}
	}
}

func TestTermLengthEdges(t *testing.T) {
	cases := []struct {
		text string
		want int
	}{
		{"n", 1}, {"-@n", 1}, {"9n", 9}, {"99n", 81}, {"(n+e)", 2}, {"(395n+65n)", 165}, {"855n", walkMax}, {"(855n+n)", 0},
		{"(n+855n)", 0}, {"-855n", walkMax}, {"@855n", walkMax}, {"-(855n+n)", 0}, {"2855n", 0}, {"3833n", 0}, {"999n", 0},
		{"(97(n+e)+(89n+2n))", walkMax}, {"(97(n+e)+(89n+3n))", 0}, {"2(99n+(9n+9n))", 198}, {"2(99n+(9n+(9n+2n)))", 0},
	}
	for _, c := range cases {
		length, ok := impl.TermLength(c.text)
		if c.want == 0 {
			wantNoNumber(t, "TermLength of "+c.text, length, ok)
		} else {
			wantNumber(t, "TermLength of "+c.text, length, ok, c.want)
		}
	}
	for letters := 1; letters <= walkMax; letters++ {
		length, ok := impl.TermLength(sizedTerm(letters).text)
		wantNumber(t, "TermLength", length, ok, letters)
	}
}

// All promises of walks: what they say of long ones.

func TestTermLongWalks(t *testing.T) {
	long := slices.DeleteFunc(slices.Clone(someTerms()), func(m term) bool { return !m.long() })
	if len(long) < 2000 {
		t.Fatalf("there are only %d long walks", len(long))
	}
	for _, m := range long {
		wantNoWalk(t, m.text)
		if !impl.TermIn(m.text) {
			t.Errorf("TermIn of %q does not hold", m.text)
		}
		tidy, ok := impl.TermTidy(m.text)
		wantWord(t, "TermTidy of "+m.text, tidy, ok, tidyText(m.text))
	}
}

func TestTermInvalid(t *testing.T) {
	for _, s := range noTerms() {
		wantNoWalk(t, s)
		tidy, ok := impl.TermTidy(s)
		wantNoWord(t, "TermTidy", tidy, ok)
	}
}

// Promise 91.

func TestPromise91TermWalk(t *testing.T) {
	for _, m := range shortTerms() {
		walk, ok := impl.TermWalk(m.text)
		wantWord(t, "TermWalk of "+m.text, walk, ok, m.walk)
		if strings.Trim(walk, walkLetters) != "" {
			t.Errorf("TermWalk of %q is %q", m.text, walk)
		}
		if len(m.text) <= termMax-2 {
			again, told := impl.TermWalk("--" + m.text)
			wantWord(t, "TermWalk of --"+m.text, again, told, walk)
		}
	}
}

func TestTermWalkEdges(t *testing.T) {
	for _, c := range termCases() {
		walk, ok := impl.TermWalk(c.text)
		wantWord(t, "TermWalk of "+c.text, walk, ok, c.walk)
	}
	walk, ok := impl.TermWalk("855n")
	wantWord(t, "TermWalk", walk, ok, strings.Repeat("n", walkMax))
	walk, ok = impl.TermWalk("-(99e+@99w)")
	wantWord(t, "TermWalk", walk, ok, strings.Repeat("n", 81)+strings.Repeat("w", 81))
	walk, ok = impl.TermWalk(strings.Repeat("-", termMax-1) + "n")
	wantWord(t, "TermWalk", walk, ok, "s")
	walk, ok = impl.TermWalk(strings.Repeat("@", termMax-1) + "n")
	wantWord(t, "TermWalk", walk, ok, "e")
}

// Promise 92.

func TestPromise92TermEnd(t *testing.T) {
	for _, m := range shortTerms() {
		x, y, ok := impl.TermEnd(m.text)
		walk := mustWalk(t, m.text)
		east, north := walkEnd(walk)
		wantPair(t, "TermEnd of "+m.text, x, y, ok, [2]int{east, north})
	}
}

func TestTermEndEdges(t *testing.T) {
	for _, c := range termCases() {
		x, y, ok := impl.TermEnd(c.text)
		wantPair(t, "TermEnd of "+c.text, x, y, ok, c.end)
	}
	x, y, ok := impl.TermEnd("855s")
	wantPair(t, "TermEnd", x, y, ok, [2]int{0, -walkMax})
	x, y, ok = impl.TermEnd("-855w")
	wantPair(t, "TermEnd", x, y, ok, [2]int{walkMax, 0})
}

// Promise 93.

func TestPromise93TermArea(t *testing.T) {
	for _, m := range shortTerms() {
		area, ok := impl.TermArea(m.text)
		wantNumber(t, "TermArea of "+m.text, area, ok, walkArea(mustWalk(t, m.text)))
	}
}

func TestTermAreaEdges(t *testing.T) {
	for _, c := range termCases() {
		area, ok := impl.TermArea(c.text)
		wantNumber(t, "TermArea of "+c.text, area, ok, c.area)
	}
	// A square with 50 as each side, and an angle of 100 and 100, which is not closed.
	area, ok := impl.TermArea("((255e+255n)+@@(255e+255n))")
	wantNumber(t, "TermArea", area, ok, 5000)
	area, ok = impl.TermArea("-((255e+255n)+@@(255e+255n))")
	wantNumber(t, "TermArea", area, ok, -5000)
	area, ok = impl.TermArea("(455e+455n)")
	wantNumber(t, "TermArea", area, ok, 10000)
	area, ok = impl.TermArea("(455n+455e)")
	wantNumber(t, "TermArea", area, ok, -10000)
}

// Promise 94.

func TestPromise94TermCloses(t *testing.T) {
	closed := 0
	for _, m := range shortTerms() {
		x, y := walkEnd(m.walk)
		closes := impl.TermCloses(m.text)
		if closes != (x == 0 && y == 0) {
			t.Errorf("TermCloses of %q is %v", m.text, closes)
		}
		if !closes {
			continue
		}
		closed++
		if length, ok := impl.TermLength(m.text); !ok || length%2 != 0 {
			t.Errorf("TermLength of %q, which closes, is %d", m.text, length)
		}
		if len(m.text) < termMax {
			area, _ := impl.TermArea(m.text)
			same, ok := impl.TermArea("@" + m.text)
			wantNumber(t, "TermArea of @"+m.text, same, ok, area)
		}
	}
	if closed < 300 {
		t.Errorf("only %d terms close", closed)
	}
}

func TestTermClosesEdges(t *testing.T) {
	for _, c := range termCases() {
		if closes := impl.TermCloses(c.text); closes != (c.end == [2]int{}) {
			t.Errorf("TermCloses of %q is %v", c.text, closes)
		}
	}
	cases := []struct {
		text string
		want bool
	}{
		{"(e+w)", true}, {"(e+n)", false}, {"(e+e)", false}, {"(n+(n+2s))", true}, {"(n+(e+2s))", false}, {"(455e+455w)", true},
		{"455(e+w)", true}, {"(455e+(455w+(n+s)))", false}, {"456(e+w)", false}, {"9999(n+s)", false}, {"", false}, {"es", false},
	}
	for _, c := range cases {
		if closes := impl.TermCloses(c.text); closes != c.want {
			t.Errorf("TermCloses of %q is %v", c.text, closes)
		}
	}
}

// Promise 95.

func TestPromise95TermTidy(t *testing.T) {
	for _, m := range someTerms() {
		tidy, ok := impl.TermTidy(m.text)
		wantWord(t, "TermTidy of "+m.text, tidy, ok, tidyText(m.text))
		if strings.ContainsAny(tidy, "-@") || len(tidy) > len(m.text) {
			t.Errorf("TermTidy of %q is %q", m.text, tidy)
		}
		again, ok := impl.TermTidy(tidy)
		wantWord(t, "TermTidy of "+tidy, again, ok, tidy)
		if same := impl.TermSame(m.text, tidy); same == m.long() {
			t.Errorf("TermSame of %q and %q is %v", m.text, tidy, same)
		}
	}
}

func TestTermTidyEdges(t *testing.T) {
	for _, c := range termCases() {
		tidy, ok := impl.TermTidy(c.text)
		wantWord(t, "TermTidy of "+c.text, tidy, ok, c.tidy)
	}
	cases := []struct{ text, want string }{
		{strings.Repeat("9", termMax-1) + "n", strings.Repeat("9", termMax-1) + "n"},
		{"-" + strings.Repeat("9", termMax-2) + "n", strings.Repeat("9", termMax-2) + "s"},
		{strings.Repeat("9", termMax-2) + "@n", strings.Repeat("9", termMax-2) + "w"},
		{strings.Repeat("-9", 29) + "-n", strings.Repeat("9", 29) + "n"},
		{strings.Repeat("@9", 29) + "n", strings.Repeat("9", 29) + "w"},
		{"-(9999n+@99999e)", "(99999s+9999s)"},
		{"-@((n+e)+(s+w))", "((n+w)+(s+e))"},
		{"@-((n+e)+(s+w))", "((n+w)+(s+e))"},
		{"-(2(n+e)+-(s+w))", "((s+w)+2(w+s))"},
	}
	for _, c := range cases {
		tidy, ok := impl.TermTidy(c.text)
		wantWord(t, "TermTidy of "+c.text, tidy, ok, c.want)
	}
}

// Promise 96.

func TestPromise96TermSame(t *testing.T) {
	terms := slices.Concat(
		slices.Concat(termsOf(walkLetters, "2", 3)...),
		slices.Concat(termsOf("ne", "24", 5)...),
		greatTerms()[:3], []term{digitTerm('8', digitTerm('5', digitTerm('5', letterTerm('n'))))})
	same := 0
	for _, m := range terms {
		for _, n := range terms {
			holds := impl.TermSame(m.text, n.text)
			if holds != (!m.long() && m.walk == n.walk) || holds != impl.TermSame(n.text, m.text) {
				t.Fatalf("TermSame of %q and %q is %v", m.text, n.text, holds)
			}
			if !holds {
				continue
			}
			same++
			checkAlike(t, m.text, n.text)
		}
	}
	if same < 2*len(terms) {
		t.Errorf("only %d pairs of terms are the same", same)
	}
}

// checkAlike checks that the areas and the ends of two terms are the same.
func checkAlike(t *testing.T, s string, u string) {
	t.Helper()
	area, ok := impl.TermArea(u)
	wantNumber(t, "TermArea of "+u, area, ok, walkArea(mustWalk(t, s)))
	x, y, ok := impl.TermEnd(u)
	east, north := walkEnd(mustWalk(t, s))
	wantPair(t, "TermEnd of "+u, x, y, ok, [2]int{east, north})
}

func TestTermSameEdges(t *testing.T) {
	cases := []struct {
		one, two string
		want     bool
	}{
		{"n", "n", true}, {"n", "e", false}, {"n", "--n", true}, {"2n", "(n+n)", true}, {"2n", "n", false}, {"n", "2n", false},
		{"(n+(e+s))", "((n+e)+s)", true}, {"-(n+e)", "(w+s)", true}, {"(n+e)", "(e+n)", false}, {"6n", "23n", true},
		{"855n", "-@@558n", true}, {"855n", "(n+(333n+(398n+8n)))", false}, {"(855n+n)", "(855n+n)", false}, {"855n", "(855n+n)", false},
		{"", "", false}, {"n", "", false}, {"", "n", false}, {"x", "x", false}, {"nn", "2n", false}, {"2n", "nn", false},
	}
	for _, c := range cases {
		if same := impl.TermSame(c.one, c.two); same != c.want {
			t.Errorf("TermSame of %q and %q is %v", c.one, c.two, same)
		}
	}
}

// Promise 97.

func TestPromise97TermTurns(t *testing.T) {
	for _, m := range shortTerms() {
		turns := walkTurns(m.walk)
		wantTriple(t, "TermTurns", m.text, turns)
		length, ok := impl.TermLength(m.text)
		if !ok || turns[0]+turns[1]+turns[2] >= length {
			t.Errorf("TermTurns of %q are %v, and TermLength %d", m.text, turns, length)
		}
		if len(m.text) < termMax {
			wantTriple(t, "TermTurns", "-"+m.text, [3]int{turns[1], turns[0], turns[2]})
			wantTriple(t, "TermTurns", "@"+m.text, turns)
		}
	}
}

func TestTermTurnsEdges(t *testing.T) {
	for _, c := range termCases() {
		wantTriple(t, "TermTurns", c.text, c.turns)
	}
	for _, one := range walkLetters {
		for _, two := range walkLetters {
			walk := string(one) + string(two)
			wantTriple(t, "TermTurns", "("+walk[:1]+"+"+walk[1:]+")", walkTurns(walk))
		}
	}
	wantTriple(t, "TermTurns", "855n", [3]int{})
	wantTriple(t, "TermTurns", "455(n+s)", [3]int{0, 0, walkMax - 1})
	wantTriple(t, "TermTurns", "255((e+n)+(w+s))", [3]int{walkMax - 1, 0, 0})
	wantTriple(t, "TermTurns", "-255((e+n)+(w+s))", [3]int{0, walkMax - 1, 0})
}
