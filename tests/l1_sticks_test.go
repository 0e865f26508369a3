package tests

import (
	"math"
	"slices"
	"testing"

	"loop.example/closingsticks/impl"
)

func TestStickLimits(t *testing.T) {
	if impl.LengthMax != lengthMax || impl.SticksMax != sticksMax {
		t.Errorf("LengthMax is %d and SticksMax %d", impl.LengthMax, impl.SticksMax)
	}
}

// Promise 1.

func TestPromise1StickIn(t *testing.T) {
	for _, a := range slices.Concat(someBundles(), someLists(), noBundles()) {
		got := impl.StickIn(a)
		if got != isBundle(a) {
			t.Errorf("StickIn of %v returned %v", a, got)
		}
		if !got || len(a) < 2 {
			continue
		}
		if !impl.StickIn(a[1:]) {
			t.Errorf("StickIn of %v without the first one does not hold", a)
		}
		b, ok := impl.StickSort(a)
		wantList(t, "StickSort", b, ok, a)
	}
}

func TestStickInEdges(t *testing.T) {
	for _, a := range [][]int{{1}, {60}, {1, 1}, {1, 60}, {60, 60}, {3, 4, 5}, {60, 60, 60, 60, 60, 60, 60, 60, 60}} {
		if !impl.StickIn(a) {
			t.Errorf("StickIn of %v does not hold", a)
		}
	}
	for _, a := range noBundles() {
		if impl.StickIn(a) {
			t.Errorf("StickIn of %v holds", a)
		}
	}
}

// Promise 2.

func TestPromise2StickSort(t *testing.T) {
	for _, a := range slices.Concat(someBundles(), someLists(), noBundles()) {
		want := slices.Clone(a)
		slices.Sort(want)
		b, ok := impl.StickSort(a)
		if !isBundle(want) {
			wantNoList(t, "StickSort", b, ok)
			continue
		}
		wantList(t, "StickSort", b, ok, want)
		if !impl.StickIn(b) {
			t.Errorf("StickIn of StickSort %v does not hold", b)
		}
		if sumOf(b) != sumOf(a) {
			t.Errorf("StickSort of %v has the sum %d", a, sumOf(b))
		}
		wantList(t, "StickSort of itself", mustSort(t, b), true, b)
	}
}

func TestStickSortEdges(t *testing.T) {
	cases := []struct{ list, want []int }{
		{[]int{5}, []int{5}},
		{[]int{2, 1}, []int{1, 2}},
		{[]int{60, 1, 60, 1}, []int{1, 1, 60, 60}},
		{[]int{9, 8, 7, 6, 5, 4, 3, 2, 1}, []int{1, 2, 3, 4, 5, 6, 7, 8, 9}},
		{[]int{4, 4, 4}, []int{4, 4, 4}},
	}
	for _, c := range cases {
		b, ok := impl.StickSort(c.list)
		wantList(t, "StickSort", b, ok, c.want)
	}
	for _, a := range [][]int{nil, {}, {0, 1}, {61, 1}, {5, -1}, {10, 9, 8, 7, 6, 5, 4, 3, 2, 1}} {
		b, ok := impl.StickSort(a)
		wantNoList(t, "StickSort", b, ok)
	}
}

// Promise 3.

func TestPromise3StickThree(t *testing.T) {
	for a := -1; a <= lengthMax+2; a++ {
		for b := a; b <= lengthMax+2; b++ {
			for c := b; c <= lengthMax+2; c++ {
				want := a >= 1 && c <= lengthMax && sides(a, b, c)
				checkThree(t, a, b, c, want)
			}
		}
	}
}

func checkThree(t *testing.T, a int, b int, c int, want bool) {
	t.Helper()
	for _, o := range [][3]int{{a, b, c}, {a, c, b}, {b, a, c}, {b, c, a}, {c, a, b}, {c, b, a}} {
		if got := impl.StickThree(o[0], o[1], o[2]); got != want {
			t.Errorf("StickThree of %v returned %v", o, got)
		}
	}
	if want && !impl.StickThree(c, c, c) {
		t.Errorf("StickThree of %d three times does not hold", c)
	}
}

func TestStickThreeEdges(t *testing.T) {
	checkThree(t, 1, 1, 1, true)
	checkThree(t, 60, 60, 60, true)
	checkThree(t, 1, 60, 60, true)
	checkThree(t, 3, 4, 5, true)
	checkThree(t, 1, 2, 3, false)
	checkThree(t, 1, 1, 3, false)
	checkThree(t, 30, 30, 60, false)
	checkThree(t, 30, 31, 60, true)
	checkThree(t, 0, 5, 5, false)
	checkThree(t, 60, 60, 61, false)
	checkThree(t, -1, -1, -1, false)
	checkThree(t, math.MaxInt, math.MaxInt, math.MaxInt, false)
	checkThree(t, math.MinInt, math.MinInt, math.MinInt, false)
	checkThree(t, math.MinInt, 1, math.MaxInt, false)
}

// Promises 4 and 7.

func TestPromise4StickMany(t *testing.T) {
	for _, a := range someBundles() {
		many, ok := impl.StickMany(a)
		wantNumber(t, "StickMany", many, ok, len(trianglesOf(a)))
		n := len(a)
		if many > n*(n-1)*(n-2)/6 {
			t.Errorf("StickMany of %v returned %d", a, many)
		}
		rest, ok := impl.StickDrop(a, 0)
		if ok != (n > 1) {
			t.Errorf("StickDrop of the first place of %v returned %v", a, ok)
		}
		if !ok {
			continue
		}
		if less, ok := impl.StickMany(rest); !ok || less > many {
			t.Errorf("StickMany of %v returned %d, and %d, %v without the first one", a, many, less, ok)
		}
	}
}

func TestPromise7StickManyFreeWidest(t *testing.T) {
	for _, a := range slices.Concat(someBundles(), someLists(), noBundles()) {
		many, ok := impl.StickMany(a)
		if ok != isBundle(a) {
			t.Errorf("StickMany of %v returned %v", a, ok)
		}
		if !ok {
			continue
		}
		_, wide := impl.StickWidest(a)
		if free := impl.StickFree(a); free != (many == 0) || wide == free {
			t.Errorf("of %v StickMany is %d, StickFree %v and StickWidest %v", a, many, free, wide)
		}
	}
}

func TestStickManyEdges(t *testing.T) {
	cases := []struct {
		bundle []int
		want   int
	}{
		{[]int{1}, 0},
		{[]int{60, 60}, 0},
		{[]int{1, 2, 3}, 0},
		{[]int{3, 4, 5}, 1},
		{[]int{2, 3, 4, 5}, 3},
		{[]int{7, 7, 7, 7}, 4},
		{[]int{1, 1, 1, 1, 1, 1, 1, 1, 1}, 84},
		{[]int{60, 60, 60, 60, 60, 60, 60, 60, 60}, 84},
		{[]int{1, 1, 2, 3, 5, 8, 13, 21, 34}, 0},
	}
	for _, c := range cases {
		many, ok := impl.StickMany(c.bundle)
		wantNumber(t, "StickMany", many, ok, c.want)
	}
	for _, a := range noBundles() {
		many, ok := impl.StickMany(a)
		wantNoNumber(t, "StickMany", many, ok)
	}
}

// Promise 5.

func TestPromise5StickWidest(t *testing.T) {
	for _, a := range someBundles() {
		sums := trianglesOf(a)
		widest, ok := impl.StickWidest(a)
		if len(sums) == 0 {
			wantNoNumber(t, "StickWidest", widest, ok)
			continue
		}
		wantNumber(t, "StickWidest", widest, ok, slices.Max(sums))
		if many, ok := impl.StickMany(a); !ok || many < 1 {
			t.Errorf("StickMany of %v returned %d, %v", a, many, ok)
		}
	}
}

func TestStickWidestEdges(t *testing.T) {
	cases := []struct {
		bundle []int
		want   int
	}{
		{[]int{3, 4, 5}, 12},
		{[]int{1, 1, 1}, 3},
		{[]int{60, 60, 60}, 180},
		{[]int{1, 2, 3, 4, 8}, 9},
		{[]int{2, 3, 4, 5, 9, 60}, 12},
		{[]int{1, 1, 1, 2, 4, 8, 16, 32, 60}, 3},
		{[]int{1, 1, 2, 3, 5, 8, 13, 21, 33}, 67},
	}
	for _, c := range cases {
		widest, ok := impl.StickWidest(c.bundle)
		wantNumber(t, "StickWidest", widest, ok, c.want)
	}
	for _, a := range append(noBundles(), []int{1}, []int{60, 60}, []int{1, 2, 3}, []int{30, 30, 60}) {
		widest, ok := impl.StickWidest(a)
		wantNoNumber(t, "StickWidest", widest, ok)
	}
}

// Promise 6.

func TestPromise6StickFree(t *testing.T) {
	for _, a := range slices.Concat(someBundles(), someLists(), noBundles()) {
		got := impl.StickFree(a)
		if got != (isBundle(a) && len(trianglesOf(a)) == 0) {
			t.Errorf("StickFree of %v returned %v", a, got)
		}
		if !got {
			continue
		}
		widest, ok := impl.StickWidest(a)
		wantNoNumber(t, "StickWidest", widest, ok)
		for k := 2; k < len(a); k++ {
			if a[k] < a[k-1]+a[k-2] {
				t.Errorf("StickFree of %v holds, whatever is at %d", a, k)
			}
		}
	}
}

func TestStickFreeEdges(t *testing.T) {
	for _, a := range [][]int{{1}, {60}, {1, 1}, {60, 60}, {1, 1, 2}, {30, 30, 60}, {1, 1, 2, 3, 5, 8, 13, 21, 34}} {
		if !impl.StickFree(a) {
			t.Errorf("StickFree of %v does not hold", a)
		}
	}
	for _, a := range append(noBundles(), []int{1, 1, 1}, []int{60, 60, 60}, []int{1, 1, 2, 3, 5, 8, 13, 21, 33}) {
		if impl.StickFree(a) {
			t.Errorf("StickFree of %v holds", a)
		}
	}
}

// Promise 8.

func TestPromise8StickLongFree(t *testing.T) {
	whole := []int{1, 1, 2, 3, 5, 8, 13, 21, 34}
	for n := 1; n <= 54; n++ {
		sticks := 0
		for _, x := range whole {
			if x <= n {
				sticks++
			}
		}
		b, ok := impl.StickLongFree(n)
		wantList(t, "StickLongFree", b, ok, whole[:sticks])
		if !impl.StickFree(b) {
			t.Errorf("StickFree of StickLongFree %v does not hold", b)
		}
		if last := len(b) - 1; last < 1 || b[last] > n || b[last]+b[last-1] <= n {
			t.Errorf("StickLongFree of %d returned %v", n, b)
		}
	}
}

func TestStickLongFreeEdges(t *testing.T) {
	cases := []struct {
		n    int
		want []int
	}{
		{1, []int{1, 1}},
		{2, []int{1, 1, 2}},
		{3, []int{1, 1, 2, 3}},
		{4, []int{1, 1, 2, 3}},
		{33, []int{1, 1, 2, 3, 5, 8, 13, 21}},
		{34, []int{1, 1, 2, 3, 5, 8, 13, 21, 34}},
		{54, []int{1, 1, 2, 3, 5, 8, 13, 21, 34}},
	}
	for _, c := range cases {
		b, ok := impl.StickLongFree(c.n)
		wantList(t, "StickLongFree", b, ok, c.want)
	}
	for _, n := range []int{math.MinInt, -1, 0, 55, 60, math.MaxInt} {
		b, ok := impl.StickLongFree(n)
		wantNoList(t, "StickLongFree", b, ok)
	}
}

// Promise 9.

func TestPromise9StickTryFree(t *testing.T) {
	for n := 1; n <= 8; n++ {
		long, ok := impl.StickLongFree(n)
		if !ok {
			t.Errorf("StickLongFree of %d failed", n)
		}
		most, ok := impl.StickTryFree(n)
		wantNumber(t, "StickTryFree", most, ok, len(long))
	}
}

func TestStickTryFreeTriesAll(t *testing.T) {
	for n := 1; n <= 8; n++ {
		var lengths []int
		for x := 1; x <= n; x++ {
			lengths = append(lengths, x)
		}
		want := 0
		for _, b := range bundlesOf(lengths, sticksMax) {
			if len(b) > want && len(trianglesOf(b)) == 0 {
				want = len(b)
			}
		}
		most, ok := impl.StickTryFree(n)
		wantNumber(t, "StickTryFree", most, ok, want)
	}
}

func TestStickTryFreeEdges(t *testing.T) {
	for i, want := range []int{2, 3, 4, 4, 5, 5, 5, 6} {
		most, ok := impl.StickTryFree(i + 1)
		wantNumber(t, "StickTryFree", most, ok, want)
	}
	for _, n := range []int{math.MinInt, -1, 0, 9, 54, math.MaxInt} {
		most, ok := impl.StickTryFree(n)
		wantNoNumber(t, "StickTryFree", most, ok)
	}
}

// Promise 10.

func TestPromise10StickPut(t *testing.T) {
	for _, a := range someBundles() {
		for _, x := range []int{math.MinInt, -1, 0, 1, 2, 4, 30, 59, 60, 61, math.MaxInt} {
			b, ok := impl.StickPut(a, x)
			if len(a) == sticksMax || x < 1 || x > lengthMax {
				wantNoList(t, "StickPut", b, ok)
				continue
			}
			want := append(slices.Clone(a), x)
			slices.Sort(want)
			wantList(t, "StickPut", b, ok, want)
			before, _ := impl.StickMany(a)
			if many, ok := impl.StickMany(b); !ok || many < before {
				t.Errorf("StickMany of %v returned %d, and %d, %v with %d", a, before, many, ok, x)
			}
			if sum, ok := impl.StickSum(b); !ok || sum != sumOf(a)+x {
				t.Errorf("StickSum of %v with %d returned %d, %v", a, x, sum, ok)
			}
		}
	}
}

func TestStickPutEdges(t *testing.T) {
	eight := []int{2, 2, 2, 2, 2, 2, 2, 2}
	cases := []struct {
		bundle []int
		x      int
		want   []int
	}{
		{[]int{5}, 1, []int{1, 5}},
		{[]int{5}, 5, []int{5, 5}},
		{[]int{5}, 60, []int{5, 60}},
		{[]int{3, 5}, 4, []int{3, 4, 5}},
		{eight, 1, []int{1, 2, 2, 2, 2, 2, 2, 2, 2}},
		{eight, 3, []int{2, 2, 2, 2, 2, 2, 2, 2, 3}},
	}
	for _, c := range cases {
		b, ok := impl.StickPut(c.bundle, c.x)
		wantList(t, "StickPut", b, ok, c.want)
	}
	b, ok := impl.StickPut(append(slices.Clone(eight), 2), 2)
	wantNoList(t, "StickPut of nine sticks", b, ok)
	for _, a := range noBundles() {
		b, ok := impl.StickPut(a, 3)
		wantNoList(t, "StickPut of no bundle", b, ok)
	}
}

// Promise 11.

func TestPromise11StickDrop(t *testing.T) {
	for _, a := range someBundles() {
		for at := -1; at <= len(a); at++ {
			b, ok := impl.StickDrop(a, at)
			if at < 0 || at == len(a) || len(a) == 1 {
				wantNoList(t, "StickDrop", b, ok)
				continue
			}
			want := append(slices.Clone(a[:at]), a[at+1:]...)
			wantList(t, "StickDrop", b, ok, want)
			back, ok := impl.StickPut(b, a[at])
			wantList(t, "StickPut of StickDrop", back, ok, a)
		}
	}
}

func TestStickDropEdges(t *testing.T) {
	a := []int{1, 2, 2, 60}
	for at, want := range [][]int{{2, 2, 60}, {1, 2, 60}, {1, 2, 60}, {1, 2, 2}} {
		b, ok := impl.StickDrop(a, at)
		wantList(t, "StickDrop", b, ok, want)
	}
	for _, at := range []int{math.MinInt, -1, 4, 9, math.MaxInt} {
		b, ok := impl.StickDrop(a, at)
		wantNoList(t, "StickDrop", b, ok)
	}
	b, ok := impl.StickDrop([]int{7}, 0)
	wantNoList(t, "StickDrop of one stick", b, ok)
	for _, a := range noBundles() {
		b, ok := impl.StickDrop(a, 0)
		wantNoList(t, "StickDrop of no bundle", b, ok)
	}
}

// Promise 12.

func TestPromise12StickSum(t *testing.T) {
	for _, a := range someBundles() {
		sum, ok := impl.StickSum(a)
		wantNumber(t, "StickSum", sum, ok, sumOf(a))
		if sum < len(a) {
			t.Errorf("StickSum of %v returned %d", a, sum)
		}
	}
}

func TestStickSumEdges(t *testing.T) {
	cases := []struct {
		bundle []int
		want   int
	}{
		{[]int{1}, 1},
		{[]int{60}, 60},
		{[]int{3, 4, 5}, 12},
		{[]int{1, 1, 1, 1, 1, 1, 1, 1, 1}, 9},
		{[]int{60, 60, 60, 60, 60, 60, 60, 60, 60}, 540},
	}
	for _, c := range cases {
		sum, ok := impl.StickSum(c.bundle)
		wantNumber(t, "StickSum", sum, ok, c.want)
	}
	for _, a := range noBundles() {
		sum, ok := impl.StickSum(a)
		wantNoNumber(t, "StickSum", sum, ok)
	}
}

// The general rules: no argument changes, and no memory is shared.

func TestStickMemory(t *testing.T) {
	for _, a := range [][]int{nil, {5}, {3, 4, 5}, {5, 4, 3}, {1, 1, 1, 1, 1, 1, 1, 1}, {9, 8, 7, 6, 5, 4, 3, 2, 1}, {2, 2, 2, 2, 2, 2, 2, 2, 2, 2}} {
		wantOwn(t, "StickSort", a, func(a []int) []int { b, _ := impl.StickSort(a); return b })
		for _, x := range []int{0, 1, 4, 60} {
			wantOwn(t, "StickPut", a, func(a []int) []int { b, _ := impl.StickPut(a, x); return b })
		}
		for at := range len(a) {
			wantOwn(t, "StickDrop", a, func(a []int) []int { b, _ := impl.StickDrop(a, at); return b })
		}
		wantOwn(t, "StickLongFree", a, func([]int) []int { b, _ := impl.StickLongFree(54); return b })
		wantOwn(t, "the others", a, func(a []int) []int {
			impl.StickIn(a)
			impl.StickMany(a)
			impl.StickWidest(a)
			impl.StickFree(a)
			impl.StickSum(a)
			return nil
		})
	}
}
