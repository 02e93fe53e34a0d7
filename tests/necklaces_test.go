package tests

import (
	"fmt"
	"math"
	"slices"
	"testing"

	"loop.example/g01041/impl"
)

// rotated returns word with its first k letters at its end, found without impl.
func rotated(word []int, k int) []int {
	return slices.Concat(word[k:], word[:k])
}

// leastRotationOf returns the least rotation and the number of the letters that
// are moved for it, found without impl.
func leastRotationOf(word []int) ([]int, int) {
	least, number := slices.Clone(word), 0
	for k := range word {
		if x := rotated(word, k); slices.Compare(x, least) < 0 {
			least, number = x, k
		}
	}
	return least, number
}

// isLeast reports whether no rotation of word is less than it.
func isLeast(word []int) bool {
	twice := append(append(make([]int, 0, 20), word...), word...)
	for k := range word {
		if slices.Compare(twice[k:k+len(word)], word) < 0 {
			return false
		}
	}
	return true
}

// periodByDefinition is the definition of the period, word for word.
func periodByDefinition(word []int) int {
	k := 1
	for len(word)%k > 0 || !slices.Equal(slices.Repeat(word[:k], len(word)/k), word) {
		k++
	}
	return k
}

// eachWord calls check with all words of n letters of k colors in lexicographic
// order, each in the same memory, which check must not keep.
func eachWord(n int, k int, check func(word []int)) {
	word := make([]int, n)
	for range power(k, n) {
		check(word)
		for i := n - 1; i >= 0; i-- {
			word[i] = (word[i] + 1) % k
			if word[i] > 0 {
				break
			}
		}
	}
}

// necklacesOf returns the necklaces of n letters of k colors in lexicographic
// order, found without impl.
func necklacesOf(n int, k int) [][]int {
	var all [][]int
	eachWord(n, k, func(word []int) {
		if isLeast(word) {
			all = append(all, slices.Clone(word))
		}
	})
	return all
}

// lengthsAndColors calls check with each length and each number of colors for
// which necklaces are counted.
func lengthsAndColors(check func(n int, k int)) {
	for n := 1; n <= 10; n++ {
		for k := 1; k <= 4; k++ {
			check(n, k)
		}
	}
}

// someWords calls check with all words of up to five letters, all words of up
// to ten letters of two colors, and others that follow a fixed rule.
func someWords(check func(word []int)) {
	for n := 1; n <= 10; n++ {
		if n <= 5 {
			eachWord(n, 4, check)
			continue
		}
		eachWord(n, 2, check)
		for _, word := range someColorings(n) {
			check(word)
		}
		number := 0
		eachWord(n, 4, func(word []int) {
			if number%(n*n*n-1) == 0 {
				check(word)
			}
			number++
		})
	}
}

// wrongWords returns lists that are no word.
func wrongWords() [][]int {
	return append(notColorings(), []int{0, 0, 0, 0, 0, 0, 0, 0, 0, 0, 1}, []int{1, 0, 1, 0, 1, 0, 1, 0, 1, 0, 1, 0})
}

func TestRotateWord(t *testing.T) {
	cases := []struct {
		word []int
		k    int
		want []int
	}{
		{[]int{3}, 0, []int{3}},
		{[]int{0, 1}, 0, []int{0, 1}},
		{[]int{0, 1}, 1, []int{1, 0}},
		{[]int{0, 1, 2}, 1, []int{1, 2, 0}},
		{[]int{0, 1, 2}, 2, []int{2, 0, 1}},
		{[]int{2, 2, 2, 2}, 3, []int{2, 2, 2, 2}},
		{[]int{0, 1, 0, 1}, 2, []int{0, 1, 0, 1}},
		{[]int{0, 1, 2, 3, 3, 2, 1, 0, 0, 1}, 0, []int{0, 1, 2, 3, 3, 2, 1, 0, 0, 1}},
		{[]int{0, 1, 2, 3, 3, 2, 1, 0, 0, 1}, 1, []int{1, 2, 3, 3, 2, 1, 0, 0, 1, 0}},
		{[]int{0, 1, 2, 3, 3, 2, 1, 0, 0, 1}, 9, []int{1, 0, 1, 2, 3, 3, 2, 1, 0, 0}},
	}
	for _, c := range cases {
		if got, ok := impl.RotateWord(c.word, c.k); !ok || !slices.Equal(got, c.want) {
			t.Errorf("RotateWord(%v, %d) = %v, %v, want %v", c.word, c.k, got, ok, c.want)
		}
	}
}

func TestRotationsOfSomeWords(t *testing.T) {
	someWords(func(word []int) {
		for k := range word {
			if got, ok := impl.RotateWord(word, k); !ok || !slices.Equal(got, rotated(word, k)) {
				t.Fatalf("RotateWord(%v, %d) = %v, %v", word, k, got, ok)
			}
		}
		checkNoRotation(t, word, -1)
		checkNoRotation(t, word, len(word))
		checkNoRotation(t, word, len(word)+1)
	})
}

func checkNoRotation(t *testing.T, word []int, k int) {
	t.Helper()
	if got, ok := impl.RotateWord(word, k); ok || len(got) > 0 {
		t.Errorf("RotateWord(%v, %d) = %v, %v", word, k, got, ok)
	}
}

func TestRotateWordRejects(t *testing.T) {
	for n := 1; n <= 10; n++ {
		for _, k := range append(extremes, -1, n, n+1, 2*n, -n, 10, 11) {
			checkNoRotation(t, make([]int, n), k)
			checkNoRotation(t, slices.Repeat([]int{3, 1}, 5)[:n], k)
		}
	}
	for _, bad := range wrongWords() {
		for k := -1; k <= 12; k++ {
			checkNoRotation(t, bad, k)
		}
	}
}

func TestLeastRotation(t *testing.T) {
	cases := []struct {
		word, want []int
		number     int
	}{
		{[]int{0}, []int{0}, 0},
		{[]int{3}, []int{3}, 0},
		{[]int{0, 1}, []int{0, 1}, 0},
		{[]int{1, 0}, []int{0, 1}, 1},
		{[]int{2, 2}, []int{2, 2}, 0},
		{[]int{0, 0, 1}, []int{0, 0, 1}, 0},
		{[]int{0, 1, 0}, []int{0, 0, 1}, 2},
		{[]int{1, 0, 0}, []int{0, 0, 1}, 1},
		// Several rotations are the least one.
		{[]int{1, 0, 1, 0}, []int{0, 1, 0, 1}, 1},
		{[]int{0, 1, 0, 1}, []int{0, 1, 0, 1}, 0},
		{[]int{2, 1, 1, 2, 1, 1}, []int{1, 1, 2, 1, 1, 2}, 1},
		{[]int{1, 2, 1, 1, 2, 1}, []int{1, 1, 2, 1, 1, 2}, 2},
		{[]int{3, 3, 0, 3, 3, 0, 3, 3, 0}, []int{0, 3, 3, 0, 3, 3, 0, 3, 3}, 2},
		{[]int{1, 1, 1, 1, 1, 1, 1, 1, 1, 1}, []int{1, 1, 1, 1, 1, 1, 1, 1, 1, 1}, 0},
		// The first difference is at the last letter but one, around the end.
		{[]int{0, 0, 1, 0, 0, 1, 0, 0, 0}, []int{0, 0, 0, 0, 0, 1, 0, 0, 1}, 6},
		{[]int{0, 1, 0, 1, 1, 0, 1, 0, 1, 1}, []int{0, 1, 0, 1, 1, 0, 1, 0, 1, 1}, 0},
		{[]int{0, 1, 1, 0, 1, 1, 0, 1, 0, 1}, []int{0, 1, 0, 1, 0, 1, 1, 0, 1, 1}, 6},
		{[]int{3, 0, 0, 1, 0, 0, 0, 2, 0, 0}, []int{0, 0, 0, 2, 0, 0, 3, 0, 0, 1}, 4},
		{[]int{3, 3, 3, 3, 3, 3, 3, 3, 3, 0}, []int{0, 3, 3, 3, 3, 3, 3, 3, 3, 3}, 9},
	}
	for _, c := range cases {
		if got, number, ok := impl.LeastRotation(c.word); !ok || number != c.number || !slices.Equal(got, c.want) {
			t.Errorf("LeastRotation(%v) = %v, %d, %v, want %v, %d", c.word, got, number, ok, c.want, c.number)
		}
		if got := impl.IsNecklace(c.word); got != slices.Equal(c.word, c.want) {
			t.Errorf("IsNecklace(%v) = %v", c.word, got)
		}
		if !impl.IsNecklace(c.want) {
			t.Errorf("IsNecklace(%v) = false", c.want)
		}
	}
}

func TestLeastRotationOfSomeWords(t *testing.T) {
	someWords(func(word []int) {
		want, wantNumber := leastRotationOf(word)
		least, number, ok := impl.LeastRotation(word)
		if !ok || number != wantNumber || !slices.Equal(least, want) {
			t.Fatalf("LeastRotation(%v) = %v, %d, %v, want %v, %d", word, least, number, ok, want, wantNumber)
		}
		if got, ok := impl.RotateWord(word, number); !ok || !slices.Equal(got, least) {
			t.Fatalf("RotateWord(%v, %d) = %v, %v, while the least rotation is %v", word, number, got, ok, least)
		}
		if got := impl.IsNecklace(word); got != isLeast(word) || !impl.IsNecklace(least) {
			t.Fatalf("IsNecklace(%v) = %v, IsNecklace(%v) = %v", word, got, least, impl.IsNecklace(least))
		}
	})
}

func TestPeriodOf(t *testing.T) {
	cases := []struct {
		word []int
		want int
	}{
		{[]int{0}, 1},
		{[]int{3}, 1},
		{[]int{0, 0}, 1},
		{[]int{1, 0}, 2},
		{[]int{0, 0, 1}, 3},
		{[]int{0, 1, 0, 1}, 2},
		// The first letters come again, but their number does not divide the length.
		{[]int{0, 1, 0}, 3},
		{[]int{0, 1, 0, 1, 0}, 5},
		{[]int{0, 0, 1, 0, 0, 1, 0, 0}, 8},
		{[]int{0, 1, 1, 0}, 4},
		{[]int{2, 1, 0, 2, 1, 0}, 3},
		{[]int{2, 1, 2, 1, 2, 1}, 2},
		{[]int{1, 1, 1, 1, 1, 1}, 1},
		{[]int{0, 0, 0, 1, 0, 0, 0, 1}, 4},
		{[]int{3, 1, 3, 3, 1, 3, 3, 1, 3}, 3},
		{[]int{0, 1, 2, 3, 0, 0, 1, 2, 3, 0}, 5},
		{[]int{0, 1, 0, 1, 0, 1, 0, 1, 0, 1}, 2},
		{[]int{0, 1, 0, 1, 0, 1, 0, 1, 0, 2}, 10},
		{[]int{0, 0, 0, 0, 0, 0, 0, 0, 0, 1}, 10},
		{[]int{2, 2, 2, 2, 2, 2, 2, 2, 2, 2}, 1},
	}
	for _, c := range cases {
		if got := impl.PeriodOf(c.word); got != c.want {
			t.Errorf("PeriodOf(%v) = %d, want %d", c.word, got, c.want)
		}
	}
}

func TestPeriodOfSomeWords(t *testing.T) {
	someWords(func(word []int) {
		got := impl.PeriodOf(word)
		if got != periodByDefinition(word) || len(word)%got > 0 {
			t.Fatalf("PeriodOf(%v) = %d", word, got)
		}
	})
}

func TestNoWords(t *testing.T) {
	for _, bad := range wrongWords() {
		if got, number, ok := impl.LeastRotation(bad); ok || number != 0 || len(got) > 0 {
			t.Errorf("LeastRotation(%v) = %v, %d, %v", bad, got, number, ok)
		}
		if impl.IsNecklace(bad) {
			t.Errorf("IsNecklace(%v) = true", bad)
		}
		if got := impl.PeriodOf(bad); got != 0 {
			t.Errorf("PeriodOf(%v) = %d", bad, got)
		}
		for k := -1; k <= 5; k++ {
			checkNoNext(t, bad, k)
			checkNoNumber(t, bad, k)
		}
	}
}

func checkNoNext(t *testing.T, word []int, k int) {
	t.Helper()
	if got, ok := impl.NextNecklace(word, k); ok || len(got) > 0 {
		t.Errorf("NextNecklace(%v, %d) = %v, %v", word, k, got, ok)
	}
}

func checkNoNumber(t *testing.T, word []int, k int) {
	t.Helper()
	if got := impl.NecklaceNumber(word, k); got != -1 {
		t.Errorf("NecklaceNumber(%v, %d) = %d", word, k, got)
	}
}

func checkNoNecklaceAt(t *testing.T, n int, k int, i int) {
	t.Helper()
	if got, ok := impl.NecklaceAt(n, k, i); ok || len(got) > 0 {
		t.Errorf("NecklaceAt(%d, %d, %d) = %v, %v", n, k, i, got, ok)
	}
}

func TestTotient(t *testing.T) {
	cases := []struct{ n, want int }{
		{1, 1}, {2, 1}, {3, 2}, {4, 2}, {5, 4}, {6, 2}, {7, 6}, {8, 4}, {9, 6}, {10, 4}, {12, 4}, {30, 8}, {36, 12},
		{97, 96}, {128, 64}, {210, 48}, {841, 812}, {961, 930}, {991, 990}, {997, 996}, {998, 498}, {999, 648}, {1000, 400},
		{0, 0}, {-1, 0}, {-2, 0}, {-7, 0}, {-12, 0}, {-1000, 0}, {1001, 0}, {1002, 0}, {1009, 0}, {2000, 0}, {10000, 0},
		{math.MaxInt, 0}, {math.MinInt, 0}, {math.MinInt + 1, 0}, {1 << 32, 0}, {1<<32 + 1, 0}, {1<<32 + 7, 0},
	}
	for _, c := range cases {
		if got := impl.Totient(c.n); got != c.want {
			t.Errorf("Totient(%d) = %d, want %d", c.n, got, c.want)
		}
	}
}

// totientOf goes by the prime divisors: each of them leaves all but every p-th number.
func totientOf(n int) int {
	rest, left := n, n
	for p := 2; rest > 1; p++ {
		if rest%p == 0 {
			left -= left / p
		}
		for rest%p == 0 {
			rest /= p
		}
	}
	return left
}

func TestTotientOfAll(t *testing.T) {
	for n := 1; n <= 1000; n++ {
		if got := impl.Totient(n); got != totientOf(n) {
			t.Errorf("Totient(%d) = %d, want %d", n, got, totientOf(n))
		}
		sum := 0
		for d := 1; d <= n; d++ {
			if n%d == 0 {
				sum += impl.Totient(d)
			}
		}
		if sum != n {
			t.Errorf("the totients of the divisors of %d have the sum %d", n, sum)
		}
	}
}

// checkCounts holds that count gives the numbers of a table, which has for each
// number of colors those for the lengths from 1 to 10.
func checkCounts(t *testing.T, label string, count func(n int, k int) int, table map[int][]int) {
	t.Helper()
	lengthsAndColors(func(n int, k int) {
		if got, want := count(n, k), table[k][n-1]; got != want {
			t.Errorf("%s(%d, %d) = %d, want %d", label, n, k, got, want)
		}
	})
}

// reported returns how many words of n letters of k colors is reports.
func reported(n int, k int, is func(word []int) bool) int {
	count := 0
	eachWord(n, k, func(word []int) {
		if is(word) {
			count++
		}
	})
	return count
}

func TestCountNecklaces(t *testing.T) {
	checkCounts(t, "CountNecklaces", impl.CountNecklaces, map[int][]int{
		1: {1, 1, 1, 1, 1, 1, 1, 1, 1, 1},
		2: {2, 3, 4, 6, 8, 14, 20, 36, 60, 108},
		3: {3, 6, 11, 24, 51, 130, 315, 834, 2195, 5934},
		4: {4, 10, 24, 70, 208, 700, 2344, 8230, 29144, 104968},
	})
	lengthsAndColors(func(n int, k int) {
		got := impl.CountNecklaces(n, k)
		if want := impl.CountColorings(turnsOf(t, n), k); got != want {
			t.Errorf("CountNecklaces(%d, %d) = %d, but up to rotations there are %d colorings", n, k, got, want)
		}
		if want := reported(n, k, impl.IsNecklace); got != want {
			t.Errorf("CountNecklaces(%d, %d) = %d, but IsNecklace reports %d words", n, k, got, want)
		}
	})
}

func TestNextNecklace(t *testing.T) {
	cases := []struct {
		word []int
		k    int
		want []int
	}{
		{[]int{0}, 2, []int{1}},
		{[]int{2}, 4, []int{3}},
		{[]int{0, 0}, 2, []int{0, 1}},
		{[]int{0, 1}, 2, []int{1, 1}},
		{[]int{0, 1}, 3, []int{0, 2}},
		{[]int{1, 0}, 2, []int{1, 1}},
		{[]int{0, 0, 1, 1}, 2, []int{0, 1, 0, 1}},
		{[]int{0, 1, 0, 1}, 2, []int{0, 1, 1, 1}},
		{[]int{0, 1, 0, 1}, 3, []int{0, 1, 0, 2}},
		{[]int{0, 1, 1, 0}, 2, []int{0, 1, 1, 1}},
		{[]int{0, 2, 1}, 3, []int{0, 2, 2}},
		{[]int{0, 2, 2}, 3, []int{1, 1, 1}},
		{[]int{1, 0, 0, 0}, 2, []int{1, 1, 1, 1}},
		{[]int{0, 1, 0, 0, 0, 0, 0}, 2, []int{0, 1, 0, 1, 0, 1, 1}},
		{[]int{0, 0, 0, 0, 0, 0, 0, 0, 0, 0}, 2, []int{0, 0, 0, 0, 0, 0, 0, 0, 0, 1}},
		{[]int{0, 1, 1, 1, 1, 1, 1, 1, 1, 1}, 2, []int{1, 1, 1, 1, 1, 1, 1, 1, 1, 1}},
		{[]int{0, 3, 3, 3, 3, 3, 3, 3, 3, 3}, 4, []int{1, 1, 1, 1, 1, 1, 1, 1, 1, 1}},
		{[]int{2, 3, 3, 3, 3, 3, 3, 3, 3, 3}, 4, []int{3, 3, 3, 3, 3, 3, 3, 3, 3, 3}},
		{[]int{3, 0, 0, 0, 0, 0, 0, 0, 0, 0}, 4, []int{3, 3, 3, 3, 3, 3, 3, 3, 3, 3}},
		{[]int{2, 1, 3, 0, 3, 0, 0, 0, 1, 2}, 4, []int{2, 2, 2, 2, 2, 2, 2, 2, 2, 2}},
		{[]int{0, 2, 0, 1, 3, 3, 3, 3, 3, 3}, 4, []int{0, 2, 0, 2, 0, 2, 0, 2, 0, 2}},
	}
	for _, c := range cases {
		if got, ok := impl.NextNecklace(c.word, c.k); !ok || !slices.Equal(got, c.want) {
			t.Errorf("NextNecklace(%v, %d) = %v, %v, want %v", c.word, c.k, got, ok, c.want)
		}
	}
}

// TestNecklacesFollowOneAnother goes through all necklaces of all lengths and
// numbers of colors.
func TestNecklacesFollowOneAnother(t *testing.T) {
	lengthsAndColors(func(n int, k int) {
		all := necklacesOf(n, k)
		word, ok := make([]int, n), true
		for i, want := range all {
			if !ok || !slices.Equal(word, want) {
				t.Fatalf("NextNecklace leads to %v, %v with %d colors, want %v with the index %d", word, ok, k, want, i)
			}
			word, ok = impl.NextNecklace(word, k)
		}
		if ok || len(word) > 0 || len(all) != impl.CountNecklaces(n, k) {
			t.Errorf("NextNecklace after the last of %d necklaces of %d letters of %d colors: %v, %v", len(all), n, k, word, ok)
		}
	})
}

// checkNext holds that NextNecklace finds the first of all necklaces that is
// greater than word, if there is one.
func checkNext(t *testing.T, word []int, k int, all [][]int) {
	t.Helper()
	i, found := slices.BinarySearchFunc(all, word, slices.Compare)
	if found {
		i++
	}
	if i == len(all) {
		checkNoNext(t, word, k)
	} else if got, ok := impl.NextNecklace(word, k); !ok || !slices.Equal(got, all[i]) {
		t.Fatalf("NextNecklace(%v, %d) = %v, %v, want %v", word, k, got, ok, all[i])
	}
}

// TestNextNecklaceOfAnyWord takes words that are no necklaces, too: all words,
// or, if there are many, every few of them.
func TestNextNecklaceOfAnyWord(t *testing.T) {
	lengthsAndColors(func(n int, k int) {
		all := necklacesOf(n, k)
		step := 1 + power(k, n)/20000
		number := 0
		eachWord(n, k, func(word []int) {
			number++
			if number%step == 0 {
				checkNext(t, word, k, all)
			}
		})
	})
}

// listedNecklaces calls check with each length and number of colors for which
// necklaces are numbered.
func listedNecklaces(check func(n int, k int)) {
	lengthsAndColors(func(n int, k int) {
		if isListed(n, k) {
			check(n, k)
		}
	})
}

func TestNecklaceAt(t *testing.T) {
	cases := []struct {
		n, k, i int
		want    []int
	}{
		{1, 1, 0, []int{0}},
		{1, 4, 3, []int{3}},
		{2, 2, 1, []int{0, 1}},
		{4, 2, 0, []int{0, 0, 0, 0}},
		{4, 2, 3, []int{0, 1, 0, 1}},
		{4, 2, 5, []int{1, 1, 1, 1}},
		{3, 3, 5, []int{0, 2, 1}},
		{6, 3, 129, []int{2, 2, 2, 2, 2, 2}},
		{5, 4, 207, []int{3, 3, 3, 3, 3}},
		{5, 4, 206, []int{2, 3, 3, 3, 3}},
		{10, 1, 0, []int{0, 0, 0, 0, 0, 0, 0, 0, 0, 0}},
		{10, 2, 1, []int{0, 0, 0, 0, 0, 0, 0, 0, 0, 1}},
		{10, 2, 106, []int{0, 1, 1, 1, 1, 1, 1, 1, 1, 1}},
		{10, 2, 107, []int{1, 1, 1, 1, 1, 1, 1, 1, 1, 1}},
	}
	for _, c := range cases {
		if got, ok := impl.NecklaceAt(c.n, c.k, c.i); !ok || !slices.Equal(got, c.want) {
			t.Errorf("NecklaceAt(%d, %d, %d) = %v, %v, want %v", c.n, c.k, c.i, got, ok, c.want)
		}
		if got := impl.NecklaceNumber(c.want, c.k); got != c.i {
			t.Errorf("NecklaceNumber(%v, %d) = %d, want %d", c.want, c.k, got, c.i)
		}
	}
}

func TestNecklacesAreNumbered(t *testing.T) {
	listedNecklaces(func(n int, k int) {
		all := necklacesOf(n, k)
		for i, want := range all {
			got, ok := impl.NecklaceAt(n, k, i)
			if !ok || !slices.Equal(got, want) {
				t.Fatalf("NecklaceAt(%d, %d, %d) = %v, %v, want %v", n, k, i, got, ok, want)
			}
			for moved := range n {
				if got := impl.NecklaceNumber(rotated(want, moved), k); got != i {
					t.Fatalf("NecklaceNumber(%v, %d) = %d, want %d", rotated(want, moved), k, got, i)
				}
			}
		}
		for _, i := range append(extremes, -1, len(all), len(all)+1, power(k, n)+5) {
			if i < 0 || i >= len(all) {
				checkNoNecklaceAt(t, n, k, i)
			}
		}
	})
}

func TestNecklaceNumber(t *testing.T) {
	cases := []struct {
		word []int
		k    int
		want int
	}{
		{[]int{0}, 1, 0},
		{[]int{3}, 4, 3},
		{[]int{1, 0}, 2, 1},
		{[]int{1, 0, 1, 0}, 2, 3},
		{[]int{1, 0, 0, 1}, 2, 2},
		// With more colors there are more necklaces before it.
		{[]int{1, 1, 1, 1}, 2, 5},
		{[]int{1, 1, 1, 1}, 3, 18},
		{[]int{1, 1, 1, 1}, 4, 46},
		{[]int{2, 1, 0}, 3, 5},
		{[]int{0, 0, 0, 0, 0, 0, 0, 0, 0, 0}, 1, 0},
		{[]int{1, 1, 1, 1, 1, 1, 1, 1, 1, 0}, 2, 106},
		{[]int{3, 3, 3, 3, 2}, 4, 206},
	}
	for _, c := range cases {
		if got := impl.NecklaceNumber(c.word, c.k); got != c.want {
			t.Errorf("NecklaceNumber(%v, %d) = %d, want %d", c.word, c.k, got, c.want)
		}
	}
}

// TestLimitOfNecklaces takes the greatest length for each number of colors, and
// the next one; the powers of 2 and of 4 are exactly 1024.
func TestLimitOfNecklaces(t *testing.T) {
	for k, length := range map[int]int{1: 10, 2: 10, 3: 6, 4: 5} {
		for n := 1; n <= 10; n++ {
			greatest := slices.Repeat([]int{k - 1}, n)
			last := impl.CountNecklaces(n, k) - 1
			if n > length {
				for _, i := range []int{-1, 0, 1, last, last + 1} {
					checkNoNecklaceAt(t, n, k, i)
				}
				checkNoNumber(t, greatest, k)
				checkNoNumber(t, make([]int, n), k)
				continue
			}
			if got, ok := impl.NecklaceAt(n, k, last); !ok || !slices.Equal(got, greatest) {
				t.Errorf("NecklaceAt(%d, %d, %d) = %v, %v", n, k, last, got, ok)
			}
			if got := impl.NecklaceNumber(greatest, k); got != last {
				t.Errorf("NecklaceNumber(%v, %d) = %d, want %d", greatest, k, got, last)
			}
			checkNoNecklaceAt(t, n, k, last+1)
			checkNoNecklaceAt(t, n, k, -1)
		}
	}
}

// TestGreatestColorOfNecklaces puts a color of k - 1, of k and of more at each place.
func TestGreatestColorOfNecklaces(t *testing.T) {
	lengthsAndColors(func(n int, k int) {
		all := necklacesOf(n, k)
		for at := range n {
			word := make([]int, n)
			word[at] = k - 1
			checkNext(t, word, k, all)
			least, _ := leastRotationOf(word)
			want, _ := slices.BinarySearchFunc(all, least, slices.Compare)
			if got := impl.NecklaceNumber(word, k); isListed(n, k) && got != want {
				t.Errorf("NecklaceNumber(%v, %d) = %d, want %d", word, k, got, want)
			}
			for color := k; color <= 5; color++ {
				word[at] = color
				checkNoNext(t, word, k)
				checkNoNumber(t, word, k)
			}
		}
		for color := k; color <= 4; color++ {
			checkNoNext(t, slices.Repeat([]int{color}, n), k)
			checkNoNumber(t, slices.Repeat([]int{color}, n), k)
		}
	})
}

func TestNecklacesOfWrongLengths(t *testing.T) {
	for _, n := range append(extremes, -1, 0, 11, 12, 20, 64) {
		for k := -1; k <= 5; k++ {
			if got := impl.CountNecklaces(n, k); got != -1 {
				t.Errorf("CountNecklaces(%d, %d) = %d", n, k, got)
			}
			for i := -1; i <= 2; i++ {
				checkNoNecklaceAt(t, n, k, i)
			}
		}
	}
}

func TestNecklacesWithWrongNumbersOfColors(t *testing.T) {
	for _, k := range append(extremes, -1, 0, 5, 6, 7, 8, 10, 11) {
		for n := 1; n <= 10; n++ {
			if got := impl.CountNecklaces(n, k); got != -1 {
				t.Errorf("CountNecklaces(%d, %d) = %d", n, k, got)
			}
			for i := -1; i <= 2; i++ {
				checkNoNecklaceAt(t, n, k, i)
			}
			for color := range 4 {
				word := slices.Repeat([]int{color}, n)
				checkNoNext(t, word, k)
				checkNoNumber(t, word, k)
				word[0] = 0
				checkNoNext(t, word, k)
				checkNoNumber(t, word, k)
			}
		}
	}
}

func TestNecklaceArgumentsAreLeft(t *testing.T) {
	var words [][]int
	someWords(func(word []int) {
		words = append(words, slices.Clone(word))
	})
	for _, l := range append(words, wrongWords()...) {
		word, store := withSpare(l)
		before := slices.Clone(store)
		for k := -1; k <= len(l) && k <= 11; k++ {
			impl.RotateWord(word, k)
		}
		impl.LeastRotation(word)
		impl.IsNecklace(word)
		impl.PeriodOf(word)
		impl.NextNecklace(word, 2)
		impl.NextNecklace(word, 4)
		if len(l)%3 == 0 {
			impl.NecklaceNumber(word, 2)
			impl.NecklaceNumber(word, 4)
		}
		if !slices.Equal(store, before) {
			t.Errorf("an argument %v, or what is behind it, is changed: %v", l, store)
		}
	}
}

// necklaceResults returns all results for a word that are lists, each of one call.
func necklaceResults(_ [][]int, word []int) [][][]int {
	least, _, _ := impl.LeastRotation(word)
	all := [][][]int{{least}}
	for k := range word {
		turned, _ := impl.RotateWord(word, k)
		all = append(all, [][]int{turned})
	}
	for k := 1; k <= 4; k++ {
		next, _ := impl.NextNecklace(word, k)
		all = append(all, [][]int{next})
		for i := range 4 {
			at, _ := impl.NecklaceAt(len(word), k, i)
			all = append(all, [][]int{at})
		}
	}
	return all
}

func TestNecklaceResultsAreNew(t *testing.T) {
	for n := 1; n <= 10; n++ {
		for _, word := range someColorings(n) {
			checkResultsAreNew(t, nil, word, necklaceResults)
		}
	}
}

// checkAlwaysEqual calls for the results of different words in between, as no call
// may show in a later one.
func checkAlwaysEqual(t *testing.T, words [][]int, resultsOf func(word []int) []any) {
	t.Helper()
	results := func() string {
		var all []any
		for _, word := range words {
			all = append(all, resultsOf(word)...)
		}
		return fmt.Sprint(all...)
	}
	if first := results(); first != results() {
		t.Error("the results of the same calls are different")
	}
}

func TestNecklaceResultsAreAlwaysEqual(t *testing.T) {
	words := slices.Concat(someColorings(4), someColorings(7), someColorings(10))
	checkAlwaysEqual(t, words, func(word []int) []any {
		return []any{necklaceResults(nil, word), impl.NecklaceNumber(word, 3), impl.PeriodOf(word), impl.IsNecklace(word)}
	})
}
