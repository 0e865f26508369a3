package impl

import (
	"iter"
	"slices"
)

// LengthMax is the greatest length of a stick.
const LengthMax = 60

// SticksMax is the greatest number of sticks of a bundle.
const SticksMax = 9

// longFreeMax is one less than the length that would be a tenth stick.
const longFreeMax = 54

// tryFreeMax is the greatest length for which all bundles are tried.
const tryFreeMax = 8

// bundle is a list of lengths; its methods other than valid take it to be a bundle.
type bundle []int

// three is the lengths of three sticks.
type three struct {
	a, b, c int
}

// trio is three places of a bundle, in ascending order.
type trio [3]int

// isLength reports whether a number may be the length of a stick.
func isLength(x int) bool {
	return x >= 1 && x <= LengthMax
}

// closes reports whether three lengths are sides of a triangle.
func (t three) closes() bool {
	return t.a < t.b+t.c && t.b < t.a+t.c && t.c < t.a+t.b
}

// sum returns the sum of three lengths.
func (t three) sum() int {
	return t.a + t.b + t.c
}

// valid reports whether a list is a bundle.
func (b bundle) valid() bool {
	if len(b) < 1 || len(b) > SticksMax {
		return false
	}
	for _, x := range b {
		if !isLength(x) {
			return false
		}
	}
	return slices.IsSorted(b)
}

// closing gives each choice of three places whose sticks are sides of a triangle once, in
// the order of lists.
func (b bundle) closing() iter.Seq[trio] {
	return func(yield func(trio) bool) {
		for i := range b {
			for j := i + 1; j < len(b); j++ {
				for k := j + 1; k < len(b); k++ {
					t := three{b[i], b[j], b[k]}
					if t.closes() && !yield(trio{i, j, k}) {
						return
					}
				}
			}
		}
	}
}

// free reports whether no three sticks are sides of a triangle.
func (b bundle) free() bool {
	for range b.closing() {
		return false
	}
	return true
}

// sum returns the sum of all lengths.
func (b bundle) sum() int {
	total := 0
	for _, x := range b {
		total += x
	}
	return total
}

// with returns a new bundle that has one more stick.
func (b bundle) with(x int) bundle {
	longer := append(slices.Clone(b), x)
	slices.Sort(longer)
	return longer
}

// mostFree returns the greatest number of sticks of the free bundles that begin
// with b, which is free, and go on with lengths from least to n.
func (b bundle) mostFree(least int, n int) int {
	most := len(b)
	if len(b) == SticksMax {
		return most
	}
	for x := least; x <= n; x++ {
		// A triangle stays in a bundle however it goes on, so only free ones do.
		if longer := b.with(x); longer.free() {
			most = max(most, longer.mostFree(x, n))
		}
	}
	return most
}

// StickIn reports whether a list is a bundle.
func StickIn(a []int) bool {
	return bundle(a).valid()
}

// StickSort returns the bundle with the lengths of a list, and true.
func StickSort(a []int) ([]int, bool) {
	// No list with more sticks is worth sorting.
	if len(a) > SticksMax {
		return []int{}, false
	}
	sorted := slices.Clone(bundle(a))
	slices.Sort(sorted)
	if !sorted.valid() {
		return []int{}, false
	}
	return sorted, true
}

// StickThree reports whether three lengths, from 1 to LengthMax, are sides of a triangle.
func StickThree(a int, b int, c int) bool {
	return isLength(a) && isLength(b) && isLength(c) && three{a, b, c}.closes()
}

// StickMany returns the number of ways to choose three sticks of a bundle, told by their places, whose lengths are sides of a triangle, and true.
func StickMany(a []int) (int, bool) {
	b := bundle(a)
	if !b.valid() {
		return 0, false
	}
	many := 0
	for range b.closing() {
		many++
	}
	return many, true
}

// StickWidest returns the greatest sum of the lengths of three sticks that are sides of a triangle, and true.
func StickWidest(a []int) (int, bool) {
	if !StickIn(a) {
		return 0, false
	}
	// The two sticks just ahead of the greatest one of a triangle are no less than
	// its other two, so the first triangle of such places from behind is the widest.
	for k := len(a) - 1; k >= 2; k-- {
		if t := (three{a[k-2], a[k-1], a[k]}); t.closes() {
			return t.sum(), true
		}
	}
	return 0, false
}

// StickFree reports whether no three sticks of a bundle are sides of a triangle.
func StickFree(a []int) bool {
	b := bundle(a)
	return b.valid() && b.free()
}

// StickLongFree returns the bundle that begins with 1 1 and goes on with the sum of the last two lengths as long as this is at most n, n from 1 to 54, and true.
func StickLongFree(n int) ([]int, bool) {
	if n < 1 || n > longFreeMax {
		return []int{}, false
	}
	long := []int{1, 1}
	for next := 2; next <= n; next = long[len(long)-2] + long[len(long)-1] {
		long = append(long, next)
	}
	return long, true
}

// StickTryFree returns the greatest number of sticks of a bundle of lengths of at most n, n from 1 to 8, no three of which are sides of a triangle, found by trying all, and true.
func StickTryFree(n int) (int, bool) {
	if n < 1 || n > tryFreeMax {
		return 0, false
	}
	return bundle{}.mostFree(1, n), true
}

// StickPut returns the bundle with one more stick of a length, and true.
func StickPut(a []int, x int) ([]int, bool) {
	b := bundle(a)
	if !b.valid() || len(b) == SticksMax || !isLength(x) {
		return []int{}, false
	}
	return b.with(x), true
}

// StickDrop returns the bundle without the stick at a place, and true.
func StickDrop(a []int, at int) ([]int, bool) {
	if !StickIn(a) || at < 0 || at >= len(a) || len(a) == 1 {
		return []int{}, false
	}
	return slices.Concat(a[:at], a[at+1:]), true
}

// StickSum returns the sum of all lengths, and true.
func StickSum(a []int) (int, bool) {
	b := bundle(a)
	if !b.valid() {
		return 0, false
	}
	return b.sum(), true
}
