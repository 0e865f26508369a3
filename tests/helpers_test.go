package tests

import (
	"math"
	"slices"
	"testing"

	"loop.example/closingsticks/impl"
)

// The limits are written out here, so that a changed constant is noticed.
const (
	lengthMax = 60
	sticksMax = 9
)

// bundlesOf returns all bundles of 1 to most sticks with lengths of an ascending list.
func bundlesOf(lengths []int, most int) [][]int {
	var all [][]int
	var grow func(b []int, from int)
	grow = func(b []int, from int) {
		if len(b) > 0 {
			all = append(all, slices.Clone(b))
		}
		if len(b) == most {
			return
		}
		for i := from; i < len(lengths); i++ {
			grow(append(slices.Clone(b), lengths[i]), i)
		}
	}
	grow(nil, 0)
	return all
}

// someBundles returns all small bundles, and long ones with lengths of both ends.
func someBundles() [][]int {
	small := bundlesOf([]int{1, 2, 3, 4, 5, 6, 7, 8, 9, 10}, 4)
	long := bundlesOf([]int{1, 2, 3, 5, 30, 59, 60}, sticksMax)
	return slices.Concat(small, long, [][]int{
		{1, 1, 2, 3, 5, 8, 13, 21, 34},
		{1, 1, 2, 3, 5, 8, 13, 21, 33},
		{52, 53, 54, 55, 56, 57, 58, 59, 60},
		{4, 13, 13, 14, 15, 27, 42, 55, 60},
	})
}

// someLists returns all lists of up to four numbers in and out of range, in any order.
func someLists() [][]int {
	numbers := []int{math.MinInt, -1, 0, 1, 2, 60, 61, math.MaxInt}
	all := [][]int{nil, {}}
	last := [][]int{{}}
	for range 4 {
		var next [][]int
		for _, list := range last {
			for _, x := range numbers {
				next = append(next, append(slices.Clone(list), x))
			}
		}
		all = append(all, next...)
		last = next
	}
	return all
}

// noBundles returns lists that are no bundles, each for one reason.
func noBundles() [][]int {
	return [][]int{
		nil,
		{},
		{0},
		{-1},
		{61},
		{math.MinInt},
		{math.MaxInt},
		{2, 1},
		{3, 4, 5, 4},
		{0, 3, 4, 5},
		{-3, 3, 4, 5},
		{3, 4, 5, 61},
		{1, 1, 1, 1, 1, 1, 1, 1, 1, 1},
		{1, 1, 2, 3, 5, 8, 13, 21, 34, 55},
		make([]int, 1000),
	}
}

// sumOf returns the sum of a list.
func sumOf(a []int) int {
	total := 0
	for _, x := range a {
		total += x
	}
	return total
}

// isBundle tells by the words of the document whether a list is a bundle.
func isBundle(a []int) bool {
	if len(a) == 0 || len(a) > sticksMax {
		return false
	}
	for i, x := range a {
		if x < 1 || x > lengthMax || i > 0 && a[i-1] > x {
			return false
		}
	}
	return true
}

// sides tells whether three lengths in range are sides of a triangle.
func sides(a int, b int, c int) bool {
	return a+b > c && a+c > b && b+c > a
}

// trianglesOf returns the sums of all threes of places that are sides of a triangle.
func trianglesOf(a []int) []int {
	var sums []int
	for k := range a {
		for j := range k {
			for i := range j {
				if sides(a[i], a[j], a[k]) {
					sums = append(sums, a[i]+a[j]+a[k])
				}
			}
		}
	}
	return sums
}

// wantList checks the results of a function that returns a list.
func wantList(t *testing.T, name string, got []int, ok bool, want []int) {
	t.Helper()
	if !ok || !slices.Equal(got, want) {
		t.Errorf("%s returned %v, %v instead of %v, true", name, got, ok, want)
	}
}

// wantNumber checks the results of a function that returns a number.
func wantNumber(t *testing.T, name string, got int, ok bool, want int) {
	t.Helper()
	if !ok || got != want {
		t.Errorf("%s returned %d, %v instead of %d, true", name, got, ok, want)
	}
}

// wantNoList checks that a function that returns a list failed.
func wantNoList(t *testing.T, name string, got []int, ok bool) {
	t.Helper()
	if ok || len(got) != 0 {
		t.Errorf("%s returned %v, %v instead of nothing, false", name, got, ok)
	}
}

// wantNoNumber checks that a function that returns a number failed.
func wantNoNumber(t *testing.T, name string, got int, ok bool) {
	t.Helper()
	if ok || got != 0 {
		t.Errorf("%s returned %d, %v instead of 0, false", name, got, ok)
	}
}

// wantOwn checks that a function changes neither its argument nor what lies behind
// it in the same memory, and that its result shares memory with neither of them
// nor with the result of another call.
func wantOwn(t *testing.T, name string, a []int, call func([]int) []int) {
	t.Helper()
	room := make([]int, len(a)+4)
	for i := range room {
		room[i] = -7
	}
	copy(room, a)
	before := slices.Clone(room)
	one := call(room[:len(a)])
	if !slices.Equal(room, before) {
		t.Errorf("%s of %v changed its argument to %v", name, a, room)
	}
	two := call(room[:len(a)])
	kept := slices.Clone(two)
	one = one[:cap(one)]
	for i := range one {
		one[i] = 99
	}
	if !slices.Equal(room, before) {
		t.Errorf("%s of %v returned memory of its argument", name, a)
	}
	if !slices.Equal(two, kept) {
		t.Errorf("%s of %v returned the same memory twice", name, a)
	}
}

// isTriangle tells by the words of the document whether a list is a triangle.
func isTriangle(a []int) bool {
	return len(a) == 3 && isBundle(a) && sides(a[0], a[1], a[2])
}

// allTriangles returns all triangles with lengths of at most n, in the order of lists.
func allTriangles(n int) [][]int {
	var all [][]int
	for a := 1; a <= n; a++ {
		for b := a; b <= n; b++ {
			for c := b; c <= n && c < a+b; c++ {
				all = append(all, []int{a, b, c})
			}
		}
	}
	return all
}

// noTriangles returns lists that are no triangles, each for one reason.
func noTriangles() [][]int {
	return slices.Concat(noBundles(), [][]int{
		{5},
		{4, 4},
		{3, 4, 5, 6},
		{3, 3, 3, 3, 3},
		{5, 4, 3},
		{4, 3, 5},
		{3, 5, 4},
		{1, 1, 2},
		{1, 2, 3},
		{1, 1, 60},
		{20, 40, 60},
		{0, 0, 0},
		{0, 5, 5},
		{-5, -5, -5},
		{-4, 3, 3},
		{60, 60, 61},
		{61, 61, 61},
		{math.MaxInt, math.MaxInt, math.MaxInt},
		{math.MinInt, math.MinInt, math.MinInt},
		{math.MinInt, 1, math.MaxInt},
	})
}

// wantLists checks the results of a function that returns lists.
func wantLists(t *testing.T, name string, got [][]int, ok bool, want [][]int) {
	t.Helper()
	if !ok || !slices.EqualFunc(got, want, slices.Equal) {
		t.Errorf("%s returned %v, %v instead of %v, true", name, got, ok, want)
	}
}

// wantNoLists checks that a function that returns lists failed.
func wantNoLists(t *testing.T, name string, got [][]int, ok bool) {
	t.Helper()
	if ok || len(got) != 0 {
		t.Errorf("%s returned %v, %v instead of nothing, false", name, got, ok)
	}
}

// wantWord checks the results of a function that returns a text.
func wantWord(t *testing.T, name string, got string, ok bool, want string) {
	t.Helper()
	if !ok || got != want {
		t.Errorf("%s returned %q, %v instead of %q, true", name, got, ok, want)
	}
}

// wantNoWord checks that a function that returns a text failed.
func wantNoWord(t *testing.T, name string, got string, ok bool) {
	t.Helper()
	if ok || got != "" {
		t.Errorf("%s returned %q, %v instead of nothing, false", name, got, ok)
	}
}

// wantOwnLists checks that no two lists of the results of a function share memory,
// and that it returns the same whatever is done with an earlier result.
func wantOwnLists(t *testing.T, name string, call func() [][]int) {
	t.Helper()
	one, two := call(), call()
	want := make([][]int, len(two))
	for i := range two {
		want[i] = slices.Clone(two[i])
	}
	for i := range one {
		list := one[i][:cap(one[i])]
		for j := range list {
			list[j] = 99
		}
		if !slices.EqualFunc(one[i+1:], want[i+1:], slices.Equal) {
			t.Errorf("%s returned lists that share memory", name)
		}
	}
	clear(one[:cap(one)])
	if !slices.EqualFunc(two, want, slices.Equal) || !slices.EqualFunc(call(), want, slices.Equal) {
		t.Errorf("%s returned the same memory twice", name)
	}
}

// mustSort returns StickSort of a list that it succeeds for.
func mustSort(t *testing.T, a []int) []int {
	t.Helper()
	b, ok := impl.StickSort(a)
	if !ok {
		t.Fatalf("StickSort of %v failed", a)
	}
	return b
}

// wantPair checks the results of a function that returns two numbers.
func wantPair(t *testing.T, name string, one int, two int, ok bool, want [2]int) {
	t.Helper()
	if !ok || one != want[0] || two != want[1] {
		t.Errorf("%s returned %d, %d, %v instead of %d, %d, true", name, one, two, ok, want[0], want[1])
	}
}

// wantNoPair checks that a function that returns two numbers failed.
func wantNoPair(t *testing.T, name string, one int, two int, ok bool) {
	t.Helper()
	if ok || one != 0 || two != 0 {
		t.Errorf("%s returned %d, %d, %v instead of 0, 0, false", name, one, two, ok)
	}
}

// deepClone returns a copy of lists that shares no memory with them.
func deepClone(lists [][]int) [][]int {
	var all [][]int
	for _, list := range lists {
		all = append(all, slices.Clone(list))
	}
	return all
}

// sameLists tells whether lists are the same.
func sameLists(one [][]int, two [][]int) bool {
	return slices.EqualFunc(one, two, slices.Equal)
}

// inOneRow returns a copy of lists that lie in one row of memory, each with room behind
// it, and the row.
func inOneRow(lists [][]int) ([][]int, []int) {
	const gap = 2
	size := 0
	for _, list := range lists {
		size += len(list) + gap
	}
	row := slices.Repeat([]int{-7}, size)
	var all [][]int
	begin := 0
	for _, list := range lists {
		copy(row[begin:], list)
		all = append(all, row[begin:begin+len(list)])
		begin += len(list) + gap
	}
	return all, row
}

// wantOwnRows checks that a function changes neither its argument nor what lies behind it
// in the same memory, and that its result shares no memory with either.
func wantOwnRows(t *testing.T, name string, p [][]int, call func([][]int) [][]int) {
	t.Helper()
	lists, row := inOneRow(p)
	before := slices.Clone(row)
	room := append(lists, []int{5, 5}, []int{6, 6})
	kept := deepClone(room)
	made := call(room[:len(p)])
	for _, list := range made {
		list = list[:cap(list)]
		for i := range list {
			list[i] = 99
		}
	}
	clear(made[:cap(made)])
	if !slices.Equal(row, before) || !sameLists(room, kept) {
		t.Errorf("%s of %v changed its argument, or returned memory of it", name, p)
	}
	wantOwnLists(t, name, func() [][]int { return call(room[:len(p)]) })
}
