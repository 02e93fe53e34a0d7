package tests

import (
	"fmt"
	"math"
	"runtime"
	"slices"
	"testing"
	"time"

	"loop.example/g01041/impl"
)

// isLessThanOthers is the definition of a word of Lyndon, word for word.
func isLessThanOthers(word []int) bool {
	twice := append(append(make([]int, 0, 20), word...), word...)
	for k := 1; k < len(word); k++ {
		if slices.Compare(word, twice[k:k+len(word)]) >= 0 {
			return false
		}
	}
	return true
}

// lyndonWordsOf returns the words of Lyndon of n letters of k colors in
// lexicographic order, found without impl.
func lyndonWordsOf(n int, k int) [][]int {
	var all [][]int
	eachWord(n, k, func(word []int) {
		if isLessThanOthers(word) {
			all = append(all, slices.Clone(word))
		}
	})
	return all
}

// wordOfAllOf puts the words of Lyndon whose length divides n together, found
// without impl.
func wordOfAllOf(n int, k int) []int {
	var all [][]int
	for d := 1; d <= n; d++ {
		if n%d == 0 {
			all = append(all, lyndonWordsOf(d, k)...)
		}
	}
	slices.SortFunc(all, slices.Compare)
	return slices.Concat(all...)
}

// factorings returns all lists of words of Lyndon of which word consists, none of
// them less than the next one, and none of them greater than the one before word.
func factorings(word []int, before []int) [][][]int {
	if len(word) == 0 {
		return [][][]int{nil}
	}
	var all [][][]int
	for end := 1; end <= len(word); end++ {
		first := word[:end]
		if !isLessThanOthers(first) || before != nil && slices.Compare(before, first) < 0 {
			continue
		}
		for _, rest := range factorings(word[end:], first) {
			all = append(all, append([][]int{first}, rest...))
		}
	}
	return all
}

// mobiusOf is the definition of Mobius from 1 to 1000, word for word.
func mobiusOf(n int) int {
	for root := 2; root <= n; root++ {
		if n%(root*root) == 0 {
			return 0
		}
	}
	value := 1
	for p := 2; p <= n; p++ {
		if n%p == 0 && totientOf(p) == p-1 {
			value = -value
		}
	}
	return value
}

// placeOf is the definition of PlaceOf, word for word: around its end, list is
// the list again and again.
func placeOf(list []int, word []int) int {
	if len(list) == 0 || len(word) == 0 {
		return -1
	}
	again := slices.Repeat(list, 2+len(word)/len(list))
	for place := range list {
		if slices.Equal(again[place:place+len(word)], word) {
			return place
		}
	}
	return -1
}

// rootByDefinition returns the shortest beginning of word that repeated is the word.
func rootByDefinition(word []int) []int {
	for k := 1; ; k++ {
		if len(word)%k == 0 && slices.Equal(slices.Repeat(word[:k], len(word)/k), word) {
			return word[:k]
		}
	}
}

func TestIsLyndon(t *testing.T) {
	cases := []struct {
		word []int
		want bool
	}{
		{[]int{0}, true},
		{[]int{3}, true},
		{[]int{0, 1}, true},
		{[]int{2, 3}, true},
		{[]int{1, 0}, false},
		{[]int{0, 0}, false},
		{[]int{3, 3}, false},
		{[]int{0, 0, 1}, true},
		{[]int{0, 1, 0}, false},
		{[]int{0, 1, 2}, true},
		{[]int{0, 2, 1}, true},
		{[]int{1, 2, 0}, false},
		// Necklaces that repeat a shorter word.
		{[]int{0, 1, 0, 1}, false},
		{[]int{0, 0, 1, 0, 0, 1}, false},
		{[]int{0, 2, 3, 0, 2, 3, 0, 2, 3}, false},
		{[]int{0, 0, 0, 1, 2, 0, 0, 0, 1, 2}, false},
		{[]int{0, 1, 0, 1, 0, 1, 0, 1, 0, 1}, false},
		{[]int{1, 1, 1, 1, 1, 1, 1, 1, 1, 1}, false},
		// Necklaces that do not, even if they end with their beginning again.
		{[]int{0, 1, 0, 2}, true},
		{[]int{0, 1, 0, 1, 1}, true},
		{[]int{0, 1, 0, 1, 0, 1, 0, 1, 0, 2}, true},
		{[]int{0, 0, 1, 0, 0, 1, 0, 1, 1, 1}, true},
		{[]int{2, 3, 3, 3, 3, 3, 3, 3, 3, 3}, true},
		// No necklaces, but their period is their length.
		{[]int{0, 1, 0, 1, 0}, false},
		{[]int{0, 1, 1, 0, 1}, false},
		{[]int{0, 1, 2, 3, 0, 1, 2, 3, 0, 0}, false},
		{[]int{3, 3, 3, 3, 3, 3, 3, 3, 3, 2}, false},
	}
	for _, c := range cases {
		if got := impl.IsLyndon(c.word); got != c.want {
			t.Errorf("IsLyndon(%v) = %v", c.word, got)
		}
	}
}

func TestLyndonWordsAreNecklacesOfTheirLength(t *testing.T) {
	someWords(func(word []int) {
		got := impl.IsLyndon(word)
		if got != isLessThanOthers(word) {
			t.Fatalf("IsLyndon(%v) = %v", word, got)
		}
		if want := impl.IsNecklace(word) && impl.PeriodOf(word) == len(word); got != want {
			t.Fatalf("IsLyndon(%v) = %v, while it is a necklace: %v, with the period %d", word, got, impl.IsNecklace(word), impl.PeriodOf(word))
		}
	})
}

func TestLyndonFactors(t *testing.T) {
	cases := []struct {
		word []int
		want [][]int
	}{
		{[]int{0}, [][]int{{0}}},
		{[]int{3}, [][]int{{3}}},
		{[]int{0, 1}, [][]int{{0, 1}}},
		{[]int{1, 0}, [][]int{{1}, {0}}},
		{[]int{2, 2}, [][]int{{2}, {2}}},
		{[]int{1, 0, 1, 1, 0}, [][]int{{1}, {0, 1, 1}, {0}}},
		{[]int{0, 1, 0}, [][]int{{0, 1}, {0}}},
		{[]int{0, 1, 0, 0, 1}, [][]int{{0, 1}, {0, 0, 1}}},
		// The shorter words of Lyndon at the beginning, 0 and 0,1 and 0,1,0,2, are no factors.
		{[]int{0, 1, 0, 2, 1, 3}, [][]int{{0, 1, 0, 2, 1, 3}}},
		{[]int{0, 1, 0, 2, 0, 1}, [][]int{{0, 1, 0, 2}, {0, 1}}},
		// One word.
		{[]int{0, 0, 0, 0, 0, 0, 0, 0, 0, 1}, [][]int{{0, 0, 0, 0, 0, 0, 0, 0, 0, 1}}},
		{[]int{0, 1, 0, 1, 0, 1, 0, 1, 0, 2}, [][]int{{0, 1, 0, 1, 0, 1, 0, 1, 0, 2}}},
		// The same word again and again, in whole or in part.
		{[]int{0, 1, 0, 1}, [][]int{{0, 1}, {0, 1}}},
		{[]int{0, 1, 0, 1, 0, 1, 0, 1, 0, 1}, [][]int{{0, 1}, {0, 1}, {0, 1}, {0, 1}, {0, 1}}},
		{[]int{0, 2, 1, 0, 2, 1, 0, 2, 1, 0}, [][]int{{0, 2, 1}, {0, 2, 1}, {0, 2, 1}, {0}}},
		{[]int{0, 2, 1, 0, 2, 1, 0, 2}, [][]int{{0, 2, 1}, {0, 2, 1}, {0, 2}}},
		{[]int{0, 0, 1, 2, 3, 0, 0, 1, 2, 3}, [][]int{{0, 0, 1, 2, 3}, {0, 0, 1, 2, 3}}},
		// Ten words.
		{[]int{3, 3, 3, 2, 2, 1, 1, 1, 0, 0}, [][]int{{3}, {3}, {3}, {2}, {2}, {1}, {1}, {1}, {0}, {0}}},
		{[]int{1, 1, 1, 1, 1, 1, 1, 1, 1, 1}, slices.Repeat([][]int{{1}}, 10)},
		{[]int{1, 0, 0, 0, 0, 0, 0, 0, 0, 0}, append([][]int{{1}}, slices.Repeat([][]int{{0}}, 9)...)},
		{[]int{3, 1, 3, 0, 3, 0, 2, 0, 0, 1}, [][]int{{3}, {1, 3}, {0, 3}, {0, 2}, {0, 0, 1}}},
	}
	for _, c := range cases {
		if got, ok := impl.LyndonFactors(c.word); !ok || !equalLists(got, c.want) {
			t.Errorf("LyndonFactors(%v) = %v, %v, want %v", c.word, got, ok, c.want)
		}
	}
}

func TestThereIsOneListOfLyndonFactors(t *testing.T) {
	someWords(func(word []int) {
		all := factorings(word, nil)
		got, ok := impl.LyndonFactors(word)
		if !ok || len(all) != 1 || !equalLists(got, all[0]) {
			t.Fatalf("LyndonFactors(%v) = %v, %v, want one of %v", word, got, ok, all)
		}
		if !slices.Equal(slices.Concat(got...), word) || impl.IsLyndon(word) != (len(got) == 1) {
			t.Fatalf("LyndonFactors(%v) = %v", word, got)
		}
		for i, factor := range got {
			if !impl.IsLyndon(factor) || i > 0 && slices.Compare(got[i-1], factor) < 0 {
				t.Fatalf("LyndonFactors(%v) = %v, in which %v is out of place", word, got, factor)
			}
		}
	})
}

func TestMobius(t *testing.T) {
	cases := []struct{ n, want int }{
		{1, 1}, {2, -1}, {3, -1}, {4, 0}, {5, -1}, {6, 1}, {7, -1}, {8, 0}, {9, 0}, {10, 1}, {12, 0}, {18, 0}, {25, 0},
		{30, -1}, {35, 1}, {36, 0}, {42, -1}, {49, 0}, {97, -1}, {105, -1}, {210, 1}, {330, 1}, {420, 0}, {899, 1}, {961, 0},
		{966, 1}, {991, -1}, {994, -1}, {995, 1}, {997, -1}, {998, 1}, {999, 0}, {1000, 0},
		{0, 0}, {-1, 0}, {-2, 0}, {-6, 0}, {-30, 0}, {-1000, 0}, {1001, 0}, {1002, 0}, {1003, 0}, {1009, 0}, {2001, 0}, {10001, 0},
		{math.MaxInt, 0}, {math.MaxInt - 1, 0}, {math.MinInt, 0}, {math.MinInt + 1, 0}, {1 << 32, 0}, {1<<32 + 1, 0}, {1<<32 + 6, 0},
	}
	for _, c := range cases {
		if got := impl.Mobius(c.n); got != c.want {
			t.Errorf("Mobius(%d) = %d, want %d", c.n, got, c.want)
		}
	}
	for n := 1001; n <= 3000; n++ {
		if impl.Mobius(n) != 0 || impl.Mobius(-n) != 0 || impl.Mobius(1000-n) != 0 {
			t.Errorf("Mobius(%d) = %d, Mobius(%d) = %d, Mobius(%d) = %d", n, impl.Mobius(n), -n, impl.Mobius(-n), 1000-n, impl.Mobius(1000-n))
		}
	}
}

func TestMobiusOfAll(t *testing.T) {
	for n := 1; n <= 1000; n++ {
		if got := impl.Mobius(n); got != mobiusOf(n) {
			t.Errorf("Mobius(%d) = %d, want %d", n, got, mobiusOf(n))
		}
		sum, totient := 0, 0
		for d := 1; d <= n; d++ {
			if n%d == 0 {
				sum += impl.Mobius(d)
				totient += impl.Mobius(d) * n / d
			}
		}
		if sum != 1/n || totient != impl.Totient(n) {
			t.Errorf("Mobius of the divisors of %d has the sum %d, and each times the other divisor %d", n, sum, totient)
		}
	}
}

func TestCountLyndon(t *testing.T) {
	checkCounts(t, "CountLyndon", impl.CountLyndon, map[int][]int{
		1: {1, 0, 0, 0, 0, 0, 0, 0, 0, 0},
		2: {2, 1, 2, 3, 6, 9, 18, 30, 56, 99},
		3: {3, 3, 8, 18, 48, 116, 312, 810, 2184, 5880},
		4: {4, 6, 20, 60, 204, 670, 2340, 8160, 29120, 104754},
	})
	lengthsAndColors(func(n int, k int) {
		if got, want := impl.CountLyndon(n, k), reported(n, k, impl.IsLyndon); got != want {
			t.Errorf("CountLyndon(%d, %d) = %d, but IsLyndon reports %d words", n, k, got, want)
		}
	})
}

// TestLyndonWordsOfAllDivisors: each word is one of as many rotations of a power
// of a word of Lyndon as this has letters, and each necklace is one such power.
func TestLyndonWordsOfAllDivisors(t *testing.T) {
	lengthsAndColors(func(n int, k int) {
		words, necklaces := 0, 0
		for d := 1; d <= n; d++ {
			if n%d == 0 {
				words += d * impl.CountLyndon(d, k)
				necklaces += impl.CountLyndon(d, k)
			}
		}
		if words != power(k, n) || necklaces != impl.CountNecklaces(n, k) {
			t.Errorf("the words of Lyndon whose length divides %d stand for %d words and %d necklaces of %d colors", n, words, necklaces, k)
		}
	})
}

func TestLyndonWords(t *testing.T) {
	cases := []struct {
		n, k int
		want [][]int
	}{
		{1, 1, [][]int{{0}}},
		{2, 1, nil},
		{10, 1, nil},
		{1, 4, [][]int{{0}, {1}, {2}, {3}}},
		{2, 2, [][]int{{0, 1}}},
		{2, 4, [][]int{{0, 1}, {0, 2}, {0, 3}, {1, 2}, {1, 3}, {2, 3}}},
		{3, 2, [][]int{{0, 0, 1}, {0, 1, 1}}},
		{3, 3, [][]int{{0, 0, 1}, {0, 0, 2}, {0, 1, 1}, {0, 1, 2}, {0, 2, 1}, {0, 2, 2}, {1, 1, 2}, {1, 2, 2}}},
		{4, 2, [][]int{{0, 0, 0, 1}, {0, 0, 1, 1}, {0, 1, 1, 1}}},
		{5, 2, [][]int{{0, 0, 0, 0, 1}, {0, 0, 0, 1, 1}, {0, 0, 1, 0, 1}, {0, 0, 1, 1, 1}, {0, 1, 0, 1, 1}, {0, 1, 1, 1, 1}}},
	}
	for _, c := range cases {
		if got, ok := impl.LyndonWords(c.n, c.k); !ok || !equalLists(got, c.want) {
			t.Errorf("LyndonWords(%d, %d) = %v, %v, want %v", c.n, c.k, got, ok, c.want)
		}
	}
	listedNecklaces(func(n int, k int) {
		got, ok := impl.LyndonWords(n, k)
		if !ok || !equalLists(got, lyndonWordsOf(n, k)) {
			t.Errorf("LyndonWords(%d, %d) = %v, %v", n, k, got, ok)
		}
		if count := impl.CountLyndon(n, k); len(got) != count {
			t.Errorf("LyndonWords(%d, %d) has %d elements, counted are %d", n, k, len(got), count)
		}
	})
}

func TestWordOfAll(t *testing.T) {
	cases := []struct {
		n, k int
		want []int
	}{
		{1, 1, []int{0}},
		{2, 1, []int{0}},
		{10, 1, []int{0}},
		{1, 2, []int{0, 1}},
		{1, 3, []int{0, 1, 2}},
		{1, 4, []int{0, 1, 2, 3}},
		{2, 2, []int{0, 0, 1, 1}},
		{2, 3, []int{0, 0, 1, 0, 2, 1, 1, 2, 2}},
		{3, 2, []int{0, 0, 0, 1, 0, 1, 1, 1}},
		{4, 2, []int{0, 0, 0, 0, 1, 0, 0, 1, 1, 0, 1, 0, 1, 1, 1, 1}},
		{2, 4, []int{0, 0, 1, 0, 2, 0, 3, 1, 1, 2, 1, 3, 2, 2, 3, 3}},
		{3, 3, []int{0, 0, 0, 1, 0, 0, 2, 0, 1, 1, 0, 1, 2, 0, 2, 1, 0, 2, 2, 1, 1, 1, 2, 1, 2, 2, 2}},
	}
	for _, c := range cases {
		if got, ok := impl.WordOfAll(c.n, c.k); !ok || !slices.Equal(got, c.want) {
			t.Errorf("WordOfAll(%d, %d) = %v, %v, want %v", c.n, c.k, got, ok, c.want)
		}
	}
	listedNecklaces(func(n int, k int) {
		got, ok := impl.WordOfAll(n, k)
		if !ok || len(got) != power(k, n) || !slices.Equal(got, wordOfAllOf(n, k)) {
			t.Errorf("WordOfAll(%d, %d) = %v, %v", n, k, got, ok)
		}
	})
}

// TestEachWordIsAtOnePlace: the word at a place is found there, and there are as
// many places as words, so that no other place has it.
func TestEachWordIsAtOnePlace(t *testing.T) {
	listedNecklaces(func(n int, k int) {
		all, _ := impl.WordOfAll(n, k)
		if len(all) != power(k, n) {
			t.Fatalf("WordOfAll(%d, %d) has %d letters", n, k, len(all))
		}
		again := slices.Repeat(all, 2+n/len(all))
		met := make([]bool, len(all))
		eachWord(n, k, func(word []int) {
			place := impl.PlaceOf(all, word)
			if place < 0 || place >= len(all) || met[place] || !slices.Equal(again[place:place+n], word) {
				t.Fatalf("PlaceOf(WordOfAll(%d, %d), %v) = %d", n, k, word, place)
			}
			met[place] = true
		})
	})
}

// checkNotListed holds that the words of n letters of k colors are not listed.
func checkNotListed(t *testing.T, n int, k int) {
	t.Helper()
	if got, ok := impl.LyndonWords(n, k); ok || len(got) > 0 {
		t.Errorf("LyndonWords(%d, %d) = %v, %v", n, k, got, ok)
	}
	if got, ok := impl.WordOfAll(n, k); ok || len(got) > 0 {
		t.Errorf("WordOfAll(%d, %d) = %v, %v", n, k, got, ok)
	}
}

// TestLimitOfLyndonWords takes the greatest length for each number of colors, and
// greater ones, for which words are counted all the same; the powers of 2 and of
// 4 are exactly 1024.
func TestLimitOfLyndonWords(t *testing.T) {
	for k, length := range map[int]int{1: 10, 2: 10, 3: 6, 4: 5} {
		for n := 1; n <= 10; n++ {
			count := impl.CountLyndon(n, k)
			if count < 0 || k > 1 && count == 0 {
				t.Errorf("CountLyndon(%d, %d) = %d", n, k, count)
			}
			if n > length {
				checkNotListed(t, n, k)
				continue
			}
			if got, ok := impl.LyndonWords(n, k); !ok || len(got) != count {
				t.Errorf("LyndonWords(%d, %d) has %d elements, %v, want %d", n, k, len(got), ok, count)
			}
			if got, ok := impl.WordOfAll(n, k); !ok || len(got) != power(k, n) || got[len(got)-1] != k-1 {
				t.Errorf("WordOfAll(%d, %d) has %d letters, %v: %v", n, k, len(got), ok, got)
			}
		}
	}
}

func checkNoLyndonWords(t *testing.T, n int, k int) {
	t.Helper()
	if got := impl.CountLyndon(n, k); got != -1 {
		t.Errorf("CountLyndon(%d, %d) = %d", n, k, got)
	}
	checkNotListed(t, n, k)
}

func TestLyndonWordsOfWrongLengths(t *testing.T) {
	for _, n := range append(extremes, -1, 0, 11, 12, 20, 64) {
		for k := -1; k <= 5; k++ {
			checkNoLyndonWords(t, n, k)
		}
		checkNoLyndonWords(t, n, n)
	}
}

func TestLyndonWordsWithWrongNumbersOfColors(t *testing.T) {
	for _, k := range append(extremes, -1, 0, 5, 6, 7, 8, 10, 11, 32, 1024) {
		for n := 1; n <= 10; n++ {
			checkNoLyndonWords(t, n, k)
		}
	}
}

func TestPlaceOf(t *testing.T) {
	cases := []struct {
		list, word []int
		want       int
	}{
		{[]int{0}, []int{0}, 0},
		{[]int{0}, []int{1}, -1},
		{[]int{0, 1}, []int{1}, 1},
		{[]int{0, 0}, []int{1}, -1},
		{[]int{0, 1, 2}, []int{1, 2}, 1},
		{[]int{0, 1, 2}, []int{2, 1}, -1},
		{[]int{0, 1, 2, 3}, []int{0, 1, 2, 3}, 0},
		// Around the end.
		{[]int{0, 0, 1}, []int{1, 0}, 2},
		{[]int{0, 1, 2}, []int{2, 0}, 2},
		{[]int{0, 1, 2}, []int{2, 0, 1}, 2},
		{[]int{0, 1, 2}, []int{1, 2, 0}, 1},
		{[]int{0, 0, 0, 1, 0, 1, 1, 1}, []int{1, 0, 0}, 7},
		{[]int{0, 0, 0, 1, 0, 1, 1, 1}, []int{1, 1, 0}, 6},
		// At several places, of which the first one counts.
		{[]int{1, 1, 1}, []int{1}, 0},
		{[]int{0, 1, 0, 1}, []int{1, 0}, 1},
		{[]int{0, 0, 1, 0, 1, 1, 0, 1}, []int{0, 1}, 1},
		{[]int{1, 0, 1, 1}, []int{1, 1}, 2},
		{[]int{2, 0, 2, 0, 1, 2, 0, 1}, []int{2, 0, 1}, 2},
		// Longer than the list.
		{[]int{0}, []int{0, 0}, 0},
		{[]int{0}, []int{0, 0, 0, 0, 0, 0, 0, 0, 0, 0, 0, 0}, 0},
		{[]int{0}, []int{0, 0, 0, 1}, -1},
		{[]int{0, 1}, []int{1, 0, 1}, 1},
		{[]int{0, 1}, []int{1, 0, 1, 1}, -1},
		{[]int{0, 1, 2}, []int{2, 0, 1, 2, 0, 1, 2, 0, 1, 2, 0, 1}, 2},
		{[]int{0, 1, 2}, []int{2, 0, 1, 2, 0, 1, 2, 0, 1, 2, 0, 0}, -1},
		{[]int{0, 0, 1}, []int{0, 1, 0, 0, 1, 0}, 1},
		// Empty.
		{nil, []int{1}, -1},
		{[]int{}, []int{0}, -1},
		{[]int{0}, nil, -1},
		{[]int{0, 1}, []int{}, -1},
		{nil, nil, -1},
		{[]int{}, []int{}, -1},
		// Lists that are no coloring.
		{[]int{4, 5}, []int{5}, 1},
		{[]int{0, -1}, []int{-1, 0}, 1},
		{[]int{0, -1}, []int{4}, -1},
		{[]int{math.MaxInt, math.MinInt}, []int{math.MinInt, math.MaxInt}, 1},
		{[]int{256, 257, 1 << 32}, []int{0}, -1},
		{make([]int, 5000), make([]int, 5000), 0},
		{append(make([]int, 5000), 1), []int{0, 1, 0, 0}, 4999},
		{[]int{0, 1}, slices.Repeat([]int{1, 0}, 5000), 1},
		{[]int{0, 1, 2, 3, 0, 1, 2, 3, 0, 1, 2, 3}, []int{3, 0, 1, 2, 3, 0, 1, 2, 3, 0, 1}, 3},
	}
	for _, c := range cases {
		if got := impl.PlaceOf(c.list, c.word); got != c.want {
			t.Errorf("PlaceOf(%v, %v) = %d, want %d", c.list, c.word, got, c.want)
		}
	}
}

func TestPlaceOfAllSmallLists(t *testing.T) {
	for n := range 6 {
		for m := range 7 {
			words := allLists(upTo(2), m)
			if n <= 4 && m <= 4 {
				words = append(words, allLists([]int{0, 1, -1}, m)...)
			}
			for _, list := range append(allLists(upTo(2), n), allLists([]int{0, 1, -1}, min(n, 4))...) {
				for _, word := range words {
					if got := impl.PlaceOf(list, word); got != placeOf(list, word) {
						t.Fatalf("PlaceOf(%v, %v) = %d, want %d", list, word, got, placeOf(list, word))
					}
				}
			}
		}
	}
}

// TestPlaceOfRotations takes each rotation of a word for its place in the word:
// there are as many different ones as the period.
func TestPlaceOfRotations(t *testing.T) {
	someWords(func(word []int) {
		period := len(rootByDefinition(word))
		for k := range word {
			if got := impl.PlaceOf(word, rotated(word, k)); got != k%period {
				t.Fatalf("PlaceOf(%v, %v) = %d, want %d", word, rotated(word, k), got, k%period)
			}
		}
		if got := impl.PlaceOf(word, append(slices.Clone(word), word[0]+1)); got != placeOf(word, append(slices.Clone(word), word[0]+1)) {
			t.Fatalf("PlaceOf(%v, the word and another letter) = %d", word, got)
		}
	})
}

func TestRootOf(t *testing.T) {
	cases := []struct {
		word, want []int
		times      int
	}{
		{[]int{0}, []int{0}, 1},
		{[]int{3}, []int{3}, 1},
		{[]int{0, 0}, []int{0}, 2},
		{[]int{1, 0}, []int{1, 0}, 1},
		{[]int{0, 1, 0}, []int{0, 1, 0}, 1},
		{[]int{2, 2, 2}, []int{2}, 3},
		{[]int{0, 1, 0, 1}, []int{0, 1}, 2},
		{[]int{0, 1, 1, 0}, []int{0, 1, 1, 0}, 1},
		{[]int{1, 0, 1, 0, 1}, []int{1, 0, 1, 0, 1}, 1},
		{[]int{2, 1, 0, 2, 1, 0}, []int{2, 1, 0}, 2},
		{[]int{3, 1, 3, 1, 3, 1}, []int{3, 1}, 3},
		{[]int{1, 1, 0, 1, 1, 0, 1, 1}, []int{1, 1, 0, 1, 1, 0, 1, 1}, 1},
		{[]int{0, 0, 0, 1, 0, 0, 0, 1}, []int{0, 0, 0, 1}, 2},
		{[]int{3, 0, 3, 3, 0, 3, 3, 0, 3}, []int{3, 0, 3}, 3},
		{[]int{1, 0, 1, 0, 1, 0, 1, 0, 1, 0}, []int{1, 0}, 5},
		{[]int{3, 1, 2, 0, 0, 3, 1, 2, 0, 0}, []int{3, 1, 2, 0, 0}, 2},
		{[]int{3, 3, 3, 3, 3, 3, 3, 3, 3, 3}, []int{3}, 10},
		{[]int{3, 3, 3, 3, 3, 3, 3, 3, 3, 0}, []int{3, 3, 3, 3, 3, 3, 3, 3, 3, 0}, 1},
	}
	for _, c := range cases {
		if got, times, ok := impl.RootOf(c.word); !ok || times != c.times || !slices.Equal(got, c.want) {
			t.Errorf("RootOf(%v) = %v, %d, %v, want %v, %d", c.word, got, times, ok, c.want, c.times)
		}
	}
}

func TestRootOfSomeWords(t *testing.T) {
	someWords(func(word []int) {
		got, times, ok := impl.RootOf(word)
		if !ok || !slices.Equal(got, rootByDefinition(word)) || !slices.Equal(slices.Repeat(got, times), word) {
			t.Fatalf("RootOf(%v) = %v, %d, %v, want %v", word, got, times, ok, rootByDefinition(word))
		}
		if len(got) != impl.PeriodOf(word) || impl.IsNecklace(word) != impl.IsLyndon(got) {
			t.Fatalf("RootOf(%v) = %v, while the period is %d", word, got, impl.PeriodOf(word))
		}
	})
}

func TestLyndonOfNoWords(t *testing.T) {
	for _, bad := range wrongWords() {
		if impl.IsLyndon(bad) {
			t.Errorf("IsLyndon(%v) = true", bad)
		}
		if got, ok := impl.LyndonFactors(bad); ok || len(got) > 0 {
			t.Errorf("LyndonFactors(%v) = %v, %v", bad, got, ok)
		}
		if got, times, ok := impl.RootOf(bad); ok || times != 0 || len(got) > 0 {
			t.Errorf("RootOf(%v) = %v, %d, %v", bad, got, times, ok)
		}
	}
}

func TestLyndonArgumentsAreLeft(t *testing.T) {
	var words [][]int
	someWords(func(word []int) {
		words = append(words, slices.Clone(word))
	})
	for i, l := range append(words, wrongWords()...) {
		word, store := withSpare(l)
		list, storeList := withSpare(slices.Concat(words[i%len(words)], l))
		before := fmt.Sprint(store, storeList)
		impl.IsLyndon(word)
		impl.LyndonFactors(word)
		impl.RootOf(word)
		impl.PlaceOf(list, word)
		impl.PlaceOf(word, list)
		impl.PlaceOf(word, word)
		if got := fmt.Sprint(store, storeList); got != before {
			t.Errorf("an argument %v or %v, or what is behind it, is changed: %s", word, list, got)
		}
	}
}

// lyndonResults returns all results for a word that are lists, each of one call.
func lyndonResults(_ [][]int, word []int) [][][]int {
	factors, _ := impl.LyndonFactors(word)
	root, _, _ := impl.RootOf(word)
	all := [][][]int{factors, {root}}
	for k := 1; k <= 4; k++ {
		words, _ := impl.LyndonWords(len(word), k)
		together, _ := impl.WordOfAll(len(word), k)
		all = append(all, words, [][]int{together})
	}
	return all
}

func TestLyndonResultsAreNew(t *testing.T) {
	for n := 1; n <= 10; n++ {
		for i, word := range someColorings(n) {
			if n != 4 || i%4 == 0 {
				checkResultsAreNew(t, nil, word, lyndonResults)
			}
		}
	}
}

func TestLyndonResultsAreAlwaysEqual(t *testing.T) {
	words := slices.Concat(someColorings(3), someColorings(6), someColorings(10))
	checkAlwaysEqual(t, words, func(word []int) []any {
		return []any{lyndonResults(nil, word), impl.IsLyndon(word), impl.PlaceOf(words[0], word), impl.CountLyndon(len(word), 3)}
	})
}

// checkGoroutinesEnd holds that no more goroutines are left than there were before.
// It waits for a while, as one that has done its work may be counted for a moment
// after the call.
func checkGoroutinesEnd(t *testing.T, before int) {
	t.Helper()
	for range 500 {
		if runtime.NumGoroutine() <= before {
			return
		}
		time.Sleep(10 * time.Millisecond)
	}
	t.Errorf("%d goroutines are left, before there were %d", runtime.NumGoroutine(), before)
}

func TestLyndonSendersEnd(t *testing.T) {
	before := runtime.NumGoroutine()
	for n := range 12 {
		for k := range 6 {
			impl.LyndonWords(n, k)
			impl.WordOfAll(n, k)
			impl.LyndonFactors(slices.Repeat([]int{k - 1}, n))
		}
	}
	checkGoroutinesEnd(t, before)
}
