package tests

import (
	"runtime"
	"slices"
	"testing"

	"loop.example/g01041/impl"
)

// mirrorOf is the definition of the mirror, word for word.
func mirrorOf(word []int) []int {
	mirror := slices.Clone(word)
	slices.Reverse(mirror)
	return mirror
}

// leastBraceletOf is the definition of LeastBracelet, word for word.
func leastBraceletOf(word []int) []int {
	mirror, least := mirrorOf(word), word
	for k := range word {
		for _, x := range [][]int{rotated(word, k), rotated(mirror, k)} {
			if slices.Compare(x, least) < 0 {
				least = x
			}
		}
	}
	return slices.Clone(least)
}

// isLeastWithMirror is the definition of a bracelet, word for word.
func isLeastWithMirror(word []int) bool {
	if !isLeast(word) {
		return false
	}
	mirror := mirrorOf(word)
	for k := range mirror {
		if slices.Compare(rotated(mirror, k), word) < 0 {
			return false
		}
	}
	return true
}

// mirrorIsRotation is the definition of IsMirrored, word for word.
func mirrorIsRotation(word []int) bool {
	mirror := mirrorOf(word)
	for k := range word {
		if slices.Equal(rotated(word, k), mirror) {
			return true
		}
	}
	return false
}

// axesByDefinition is the definition of AxesOf, word for word.
func axesByDefinition(word []int) []int {
	n := len(word)
	var axes []int
	for s := range n {
		kept := true
		for i := range n {
			place := s - i
			if place < 0 {
				place += n
			}
			kept = kept && word[i] == word[place]
		}
		if kept {
			axes = append(axes, s)
		}
	}
	return axes
}

// braceletsOf returns the bracelets of n letters of k colors in lexicographic
// order, found without impl.
func braceletsOf(n int, k int) [][]int {
	return slices.DeleteFunc(necklacesOf(n, k), func(word []int) bool { return !isLeastWithMirror(word) })
}

// pairsByDefinition returns the number of pairs of different necklaces of which
// one is a rotation of the mirror of the other one: each pair is met from both.
func pairsByDefinition(n int, k int) int {
	met := 0
	for _, necklace := range necklacesOf(n, k) {
		if other, _ := leastRotationOf(mirrorOf(necklace)); !slices.Equal(other, necklace) {
			met++
		}
	}
	return met / 2
}

// bothWaysOf returns the group of the rotations and reflections of n points, as
// far as these are different.
func bothWaysOf(t *testing.T, n int) [][]int {
	return groupOf(t, cycling(n, upTo(n)), mirrorOf(upTo(n)))
}

func TestMirrorWord(t *testing.T) {
	cases := []struct{ word, want []int }{
		{[]int{0}, []int{0}},
		{[]int{3}, []int{3}},
		{[]int{0, 1}, []int{1, 0}},
		{[]int{2, 2}, []int{2, 2}},
		{[]int{0, 1, 2}, []int{2, 1, 0}},
		{[]int{0, 1, 0}, []int{0, 1, 0}},
		{[]int{0, 0, 1}, []int{1, 0, 0}},
		{[]int{1, 2, 2, 1}, []int{1, 2, 2, 1}},
		{[]int{0, 1, 0, 1}, []int{1, 0, 1, 0}},
		{[]int{0, 0, 1, 0, 1, 1}, []int{1, 1, 0, 1, 0, 0}},
		{[]int{3, 3, 3, 3, 3, 3, 3, 3, 3}, []int{3, 3, 3, 3, 3, 3, 3, 3, 3}},
		{[]int{0, 1, 2, 3, 0, 0, 3, 2, 1, 0}, []int{0, 1, 2, 3, 0, 0, 3, 2, 1, 0}},
		{[]int{0, 1, 2, 3, 1, 3, 2, 0, 1, 3}, []int{3, 1, 0, 2, 3, 1, 3, 2, 1, 0}},
	}
	for _, c := range cases {
		if got, ok := impl.MirrorWord(c.word); !ok || !slices.Equal(got, c.want) {
			t.Errorf("MirrorWord(%v) = %v, %v, want %v", c.word, got, ok, c.want)
		}
	}
}

func TestMirrorOfTheMirror(t *testing.T) {
	someWords(func(word []int) {
		mirror, ok := impl.MirrorWord(word)
		if !ok || !slices.Equal(mirror, mirrorOf(word)) {
			t.Fatalf("MirrorWord(%v) = %v, %v", word, mirror, ok)
		}
		if again, ok := impl.MirrorWord(mirror); !ok || !slices.Equal(again, word) {
			t.Fatalf("MirrorWord(%v) = %v, %v, want %v", mirror, again, ok, word)
		}
	})
}

func TestLeastBracelet(t *testing.T) {
	cases := []struct{ word, want []int }{
		// One letter, and one color.
		{[]int{0}, []int{0}},
		{[]int{3}, []int{3}},
		{[]int{2, 2}, []int{2, 2}},
		{[]int{1, 1, 1, 1, 1, 1, 1, 1, 1, 1}, []int{1, 1, 1, 1, 1, 1, 1, 1, 1, 1}},
		// The word is its own mirror.
		{[]int{0, 1, 0}, []int{0, 0, 1}},
		{[]int{1, 0, 0, 1}, []int{0, 0, 1, 1}},
		{[]int{3, 1, 2, 1, 3}, []int{1, 2, 1, 3, 3}},
		{[]int{0, 1, 2, 3, 0, 0, 3, 2, 1, 0}, []int{0, 0, 1, 2, 3, 0, 0, 3, 2, 1}},
		// The mirror is a rotation of the word, but not the word.
		{[]int{0, 1}, []int{0, 1}},
		{[]int{1, 0}, []int{0, 1}},
		{[]int{0, 0, 1}, []int{0, 0, 1}},
		{[]int{1, 1, 0}, []int{0, 1, 1}},
		{[]int{1, 0, 2, 0}, []int{0, 1, 0, 2}},
		{[]int{1, 1, 0, 0, 0, 1}, []int{0, 0, 0, 1, 1, 1}},
		{[]int{3, 2, 1, 0, 0, 1, 2, 3, 3, 3}, []int{0, 0, 1, 2, 3, 3, 3, 3, 2, 1}},
		{[]int{0, 0, 0, 0, 0, 1, 0, 0, 0, 0}, []int{0, 0, 0, 0, 0, 0, 0, 0, 0, 1}},
		// The mirror is no rotation, and the least rotation of the word is less than that of the mirror.
		{[]int{0, 1, 2}, []int{0, 1, 2}},
		{[]int{1, 2, 0}, []int{0, 1, 2}},
		{[]int{0, 1, 2, 0}, []int{0, 0, 1, 2}},
		{[]int{0, 0, 1, 0, 1, 1}, []int{0, 0, 1, 0, 1, 1}},
		{[]int{1, 1, 0, 0, 1, 0}, []int{0, 0, 1, 0, 1, 1}},
		{[]int{0, 0, 1, 0, 1, 1, 0, 0, 1, 1}, []int{0, 0, 1, 0, 1, 1, 0, 0, 1, 1}},
		{[]int{0, 1, 2, 0, 3, 1, 0, 2, 1, 3}, []int{0, 1, 2, 0, 3, 1, 0, 2, 1, 3}},
		{[]int{2, 2, 3, 3, 0, 0, 1, 1, 0, 0}, []int{0, 0, 1, 1, 0, 0, 2, 2, 3, 3}},
		// The other way round.
		{[]int{2, 1, 0}, []int{0, 1, 2}},
		{[]int{0, 2, 1}, []int{0, 1, 2}},
		{[]int{3, 1, 0, 2}, []int{0, 1, 3, 2}},
		{[]int{0, 0, 1, 1, 0, 1}, []int{0, 0, 1, 0, 1, 1}},
		{[]int{1, 1, 0, 1, 0, 0}, []int{0, 0, 1, 0, 1, 1}},
		{[]int{0, 0, 1, 1, 0, 1, 0, 0, 1, 1}, []int{0, 0, 1, 0, 1, 1, 0, 0, 1, 1}},
		{[]int{1, 2, 0, 0, 2, 1, 0, 0, 1, 2}, []int{0, 0, 1, 2, 0, 0, 2, 1, 2, 1}},
		// The word repeats a shorter one.
		{[]int{1, 0, 1, 0}, []int{0, 1, 0, 1}},
		{[]int{0, 2, 1, 0, 2, 1}, []int{0, 1, 2, 0, 1, 2}},
		{[]int{0, 1, 2, 0, 0, 1, 2, 0}, []int{0, 0, 1, 2, 0, 0, 1, 2}},
		{[]int{2, 1, 0, 2, 1, 0, 2, 1, 0}, []int{0, 1, 2, 0, 1, 2, 0, 1, 2}},
		{[]int{1, 0, 0, 1, 1, 1, 0, 0, 1, 1}, []int{0, 0, 1, 1, 1, 0, 0, 1, 1, 1}},
		{[]int{3, 1, 2, 0, 0, 3, 1, 2, 0, 0}, []int{0, 0, 2, 1, 3, 0, 0, 2, 1, 3}},
	}
	for _, c := range cases {
		if got, ok := impl.LeastBracelet(c.word); !ok || !slices.Equal(got, c.want) {
			t.Errorf("LeastBracelet(%v) = %v, %v, want %v", c.word, got, ok, c.want)
		}
		if got := impl.IsBracelet(c.word); got != slices.Equal(c.word, c.want) {
			t.Errorf("IsBracelet(%v) = %v", c.word, got)
		}
		if !impl.IsBracelet(c.want) {
			t.Errorf("IsBracelet(%v) = false", c.want)
		}
	}
}

// TestLeastBraceletOfRotations takes all rotations of a word and of its mirror.
func TestLeastBraceletOfRotations(t *testing.T) {
	someWords(func(word []int) {
		want := leastBraceletOf(word)
		for _, side := range [][]int{word, mirrorOf(word)} {
			for k := range side {
				turned := rotated(side, k)
				if got, ok := impl.LeastBracelet(turned); !ok || !slices.Equal(got, want) {
					t.Fatalf("LeastBracelet(%v) = %v, %v, want %v", turned, got, ok, want)
				}
				if got := impl.IsBracelet(turned); got != slices.Equal(turned, want) {
					t.Fatalf("IsBracelet(%v) = %v, while the least is %v", turned, got, want)
				}
			}
		}
	})
}

// TestLeastBraceletIsCanonical holds a bracelet against the pattern of its word.
func TestLeastBraceletIsCanonical(t *testing.T) {
	for n := 1; n <= 10; n++ {
		g := bothWaysOf(t, n)
		for _, word := range someColorings(n) {
			want, _ := impl.CanonOf(g, word)
			if got, ok := impl.LeastBracelet(word); !ok || !slices.Equal(got, want) {
				t.Errorf("LeastBracelet(%v) = %v, %v, but the pattern has %v", word, got, ok, want)
			}
			images := impl.PeriodOf(word)
			if !impl.IsMirrored(word) {
				images *= 2
			}
			if got := impl.CountImages(g, word); got != images {
				t.Errorf("%v, mirrored: %v, has the period %d, but %d images", word, impl.IsMirrored(word), impl.PeriodOf(word), got)
			}
		}
	}
}

func TestAxesOf(t *testing.T) {
	cases := []struct{ word, want []int }{
		// One letter, and one color.
		{[]int{0}, []int{0}},
		{[]int{3}, []int{0}},
		{[]int{0, 0}, []int{0, 1}},
		{[]int{1, 1, 1}, []int{0, 1, 2}},
		{[]int{2, 2, 2, 2, 2, 2, 2, 2, 2, 2}, []int{0, 1, 2, 3, 4, 5, 6, 7, 8, 9}},
		// Through two letters.
		{[]int{0, 1}, []int{0}},
		{[]int{1, 0}, []int{0}},
		{[]int{0, 1, 0, 2}, []int{2}},
		{[]int{1, 0, 2, 0}, []int{0}},
		{[]int{0, 1, 0, 1}, []int{0, 2}},
		{[]int{1, 0, 0, 0, 0, 0, 0, 0, 0, 0}, []int{0}},
		{[]int{0, 0, 0, 0, 0, 0, 0, 0, 0, 1}, []int{8}},
		{[]int{0, 1, 2, 1, 0, 1, 2, 1, 0, 1}, []int{8}},
		{[]int{0, 1, 0, 1, 0, 1, 0, 1, 0, 1}, []int{0, 2, 4, 6, 8}},
		// Through one letter.
		{[]int{0, 1, 1}, []int{0}},
		{[]int{1, 0, 1}, []int{2}},
		{[]int{1, 1, 0}, []int{1}},
		{[]int{3, 1, 2, 1, 3}, []int{4}},
		{[]int{0, 1, 1, 0, 1, 1, 0, 1, 1}, []int{0, 3, 6}},
		// Through none.
		{[]int{0, 0, 1, 1}, []int{1}},
		{[]int{0, 1, 1, 0}, []int{3}},
		{[]int{3, 2, 1, 0, 0, 1, 2, 3, 3, 3}, []int{7}},
		{[]int{0, 1, 2, 3, 0, 0, 3, 2, 1, 0}, []int{9}},
		{[]int{0, 0, 1, 1, 0, 0, 1, 1}, []int{1, 5}},
		// Through two letters, and through none.
		{[]int{0, 1, 1, 0, 1, 1}, []int{0, 3}},
		{[]int{0, 2, 1, 1, 2, 0, 2, 1, 1, 2}, []int{0, 5}},
		{[]int{1, 0, 0, 1, 1, 1, 0, 0, 1, 1}, []int{3, 8}},
		// The mirror is no rotation.
		{[]int{0, 1, 2}, nil},
		{[]int{0, 2, 1}, nil},
		{[]int{0, 1, 2, 0}, nil},
		{[]int{0, 0, 1, 0, 1, 1}, nil},
		{[]int{1, 1, 0, 1, 0, 0}, nil},
		{[]int{0, 2, 1, 0, 2, 1}, nil},
		{[]int{0, 0, 1, 0, 1, 1, 0, 0, 1, 1}, nil},
		{[]int{0, 1, 2, 3, 1, 3, 2, 0, 1, 3}, nil},
	}
	for _, c := range cases {
		if got := impl.AxesOf(c.word); !slices.Equal(got, c.want) {
			t.Errorf("AxesOf(%v) = %v, want %v", c.word, got, c.want)
		}
		if got := impl.IsMirrored(c.word); got != (len(c.want) > 0) {
			t.Errorf("IsMirrored(%v) = %v, with the axes %v", c.word, got, c.want)
		}
	}
}

func TestAxesOfSomeWords(t *testing.T) {
	someWords(func(word []int) {
		mirrored := impl.IsMirrored(word)
		if mirrored != mirrorIsRotation(word) {
			t.Fatalf("IsMirrored(%v) = %v", word, mirrored)
		}
		axes := impl.AxesOf(word)
		if !slices.Equal(axes, axesByDefinition(word)) {
			t.Fatalf("AxesOf(%v) = %v, want %v", word, axes, axesByDefinition(word))
		}
		want := 0
		if mirrored {
			want = len(word) / periodByDefinition(word)
		}
		if len(axes) != want {
			t.Fatalf("AxesOf(%v) = %v, want %d axes", word, axes, want)
		}
	})
}

// TestAxesOfRotations: where the first k letters go to the end, the place s - i of
// each letter becomes less by k, so that an axis becomes less by 2 * k.
func TestAxesOfRotations(t *testing.T) {
	someWords(func(word []int) {
		n := len(word)
		for k := range word {
			var want []int
			for _, s := range axesByDefinition(word) {
				want = append(want, (s+2*(n-k))%n)
			}
			slices.Sort(want)
			if got := impl.AxesOf(rotated(word, k)); !slices.Equal(got, want) {
				t.Fatalf("AxesOf(%v) = %v, want %v, as %v is a rotation", rotated(word, k), got, want, word)
			}
			if got, want := impl.IsMirrored(rotated(word, k)), impl.IsMirrored(word); got != want {
				t.Fatalf("IsMirrored(%v) = %v, but %v for its rotation %v", rotated(word, k), got, want, word)
			}
		}
	})
}

func TestCountBracelets(t *testing.T) {
	checkCounts(t, "CountBracelets", impl.CountBracelets, map[int][]int{
		1: {1, 1, 1, 1, 1, 1, 1, 1, 1, 1},
		2: {2, 3, 4, 6, 8, 13, 18, 30, 46, 78},
		3: {3, 6, 10, 21, 39, 92, 198, 498, 1219, 3210},
		4: {4, 10, 20, 55, 136, 430, 1300, 4435, 15084, 53764},
	})
	lengthsAndColors(func(n int, k int) {
		got := impl.CountBracelets(n, k)
		if want := impl.CountColorings(bothWaysOf(t, n), k); got != want {
			t.Errorf("CountBracelets(%d, %d) = %d, but up to rotations and reflections there are %d colorings", n, k, got, want)
		}
		if twice := impl.CountNecklaces(n, k) + impl.CountMirrored(n, k); 2*got != twice {
			t.Errorf("CountBracelets(%d, %d) = %d, but of %d it is half", n, k, got, twice)
		}
	})
}

// TestBraceletsAreReported asks for each word of each length and number of colors
// whether it is a bracelet.
func TestBraceletsAreReported(t *testing.T) {
	lengthsAndColors(func(n int, k int) {
		want := reported(n, k, func(word []int) bool {
			is := impl.IsBracelet(word)
			if is != isLeastWithMirror(word) {
				t.Fatalf("IsBracelet(%v) = %v", word, is)
			}
			return is
		})
		if got := impl.CountBracelets(n, k); got != want {
			t.Errorf("CountBracelets(%d, %d) = %d, but IsBracelet reports %d words", n, k, got, want)
		}
	})
}

func TestCountMirrored(t *testing.T) {
	checkCounts(t, "CountMirrored", impl.CountMirrored, map[int][]int{
		1: {1, 1, 1, 1, 1, 1, 1, 1, 1, 1},
		2: {2, 3, 4, 6, 8, 12, 16, 24, 32, 48},
		3: {3, 6, 9, 18, 27, 54, 81, 162, 243, 486},
		4: {4, 10, 16, 40, 64, 160, 256, 640, 1024, 2560},
	})
	lengthsAndColors(func(n int, k int) {
		want := reported(n, k, func(word []int) bool { return isLeast(word) && impl.IsMirrored(word) })
		if got := impl.CountMirrored(n, k); got != want {
			t.Errorf("CountMirrored(%d, %d) = %d, but IsMirrored reports %d necklaces", n, k, got, want)
		}
	})
}

func TestHandedPairs(t *testing.T) {
	checkCounts(t, "HandedPairs", impl.HandedPairs, map[int][]int{
		1: {0, 0, 0, 0, 0, 0, 0, 0, 0, 0},
		// The first pairs are 0,0,1,0,1,1 with two colors, and 0,1,2 with three.
		2: {0, 0, 0, 0, 0, 1, 2, 6, 14, 30},
		3: {0, 0, 1, 3, 12, 38, 117, 336, 976, 2724},
		4: {0, 0, 4, 15, 72, 270, 1044, 3795, 14060, 51204},
	})
	lengthsAndColors(func(n int, k int) {
		got := impl.HandedPairs(n, k)
		if want := pairsByDefinition(n, k); got != want {
			t.Errorf("HandedPairs(%d, %d) = %d, but there are %d", n, k, got, want)
		}
		if bracelets, necklaces := impl.CountBracelets(n, k), impl.CountNecklaces(n, k); got+bracelets != necklaces {
			t.Errorf("HandedPairs(%d, %d) = %d, with %d bracelets of %d necklaces", n, k, got, bracelets, necklaces)
		}
	})
}

func TestBraceletsOf(t *testing.T) {
	cases := []struct {
		n, k int
		want [][]int
	}{
		{1, 1, [][]int{{0}}},
		{2, 1, [][]int{{0, 0}}},
		{10, 1, [][]int{{0, 0, 0, 0, 0, 0, 0, 0, 0, 0}}},
		{1, 2, [][]int{{0}, {1}}},
		{1, 4, [][]int{{0}, {1}, {2}, {3}}},
		{2, 2, [][]int{{0, 0}, {0, 1}, {1, 1}}},
		{2, 3, [][]int{{0, 0}, {0, 1}, {0, 2}, {1, 1}, {1, 2}, {2, 2}}},
		{3, 2, [][]int{{0, 0, 0}, {0, 0, 1}, {0, 1, 1}, {1, 1, 1}}},
		{3, 3, [][]int{{0, 0, 0}, {0, 0, 1}, {0, 0, 2}, {0, 1, 1}, {0, 1, 2}, {0, 2, 2}, {1, 1, 1}, {1, 1, 2}, {1, 2, 2}, {2, 2, 2}}},
		{4, 2, [][]int{{0, 0, 0, 0}, {0, 0, 0, 1}, {0, 0, 1, 1}, {0, 1, 0, 1}, {0, 1, 1, 1}, {1, 1, 1, 1}}},
		// Of the 14 necklaces, 0,0,1,1,0,1 is missing.
		{6, 2, [][]int{
			{0, 0, 0, 0, 0, 0}, {0, 0, 0, 0, 0, 1}, {0, 0, 0, 0, 1, 1}, {0, 0, 0, 1, 0, 1}, {0, 0, 0, 1, 1, 1},
			{0, 0, 1, 0, 0, 1}, {0, 0, 1, 0, 1, 1}, {0, 0, 1, 1, 1, 1}, {0, 1, 0, 1, 0, 1}, {0, 1, 0, 1, 1, 1},
			{0, 1, 1, 0, 1, 1}, {0, 1, 1, 1, 1, 1}, {1, 1, 1, 1, 1, 1},
		}},
	}
	for _, c := range cases {
		if got, ok := impl.BraceletsOf(c.n, c.k); !ok || !equalLists(got, c.want) {
			t.Errorf("BraceletsOf(%d, %d) = %v, %v, want %v", c.n, c.k, got, ok, c.want)
		}
	}
	listedNecklaces(func(n int, k int) {
		got, ok := impl.BraceletsOf(n, k)
		if !ok || !equalLists(got, braceletsOf(n, k)) {
			t.Errorf("BraceletsOf(%d, %d) = %v, %v", n, k, got, ok)
		}
		if count := impl.CountBracelets(n, k); len(got) != count {
			t.Errorf("BraceletsOf(%d, %d) has %d elements, counted are %d", n, k, len(got), count)
		}
		for _, word := range got {
			if !impl.IsBracelet(word) {
				t.Errorf("BraceletsOf(%d, %d) has %v, which is no bracelet", n, k, word)
			}
		}
	})
}

func checkNoBraceletsOf(t *testing.T, n int, k int) {
	t.Helper()
	if got, ok := impl.BraceletsOf(n, k); ok || len(got) > 0 {
		t.Errorf("BraceletsOf(%d, %d) = %v, %v", n, k, got, ok)
	}
}

// TestLimitOfBracelets takes the greatest length for each number of colors, and
// greater ones, for which bracelets are counted all the same; the powers of 2 and
// of 4 are exactly 1024.
func TestLimitOfBracelets(t *testing.T) {
	for k, length := range map[int]int{1: 10, 2: 10, 3: 6, 4: 5} {
		for n := 1; n <= 10; n++ {
			count, mirrored, pairs := impl.CountBracelets(n, k), impl.CountMirrored(n, k), impl.HandedPairs(n, k)
			if mirrored < k || pairs < 0 || count != mirrored+pairs {
				t.Errorf("CountBracelets(%d, %d) = %d, with %d mirrored and %d pairs", n, k, count, mirrored, pairs)
			}
			if n > length {
				checkNoBraceletsOf(t, n, k)
				continue
			}
			got, ok := impl.BraceletsOf(n, k)
			if !ok || len(got) != count || !slices.Equal(got[count-1], slices.Repeat([]int{k - 1}, n)) {
				t.Errorf("BraceletsOf(%d, %d) = %v, %v, want %d", n, k, got, ok, count)
			}
		}
	}
}

func checkNoBraceletsCounted(t *testing.T, n int, k int) {
	t.Helper()
	for label, count := range map[string]func(int, int) int{
		"CountBracelets": impl.CountBracelets, "CountMirrored": impl.CountMirrored, "HandedPairs": impl.HandedPairs,
	} {
		if got := count(n, k); got != -1 {
			t.Errorf("%s(%d, %d) = %d", label, n, k, got)
		}
	}
	checkNoBraceletsOf(t, n, k)
}

func TestBraceletsOfWrongLengths(t *testing.T) {
	for _, n := range append(extremes, -1, 0, 11, 12, 20, 64) {
		for k := -1; k <= 5; k++ {
			checkNoBraceletsCounted(t, n, k)
		}
		checkNoBraceletsCounted(t, n, n)
	}
}

func TestBraceletsWithWrongNumbersOfColors(t *testing.T) {
	for _, k := range append(extremes, -1, 0, 5, 6, 7, 8, 10, 11, 32, 1024) {
		for n := 1; n <= 10; n++ {
			checkNoBraceletsCounted(t, n, k)
		}
	}
}

func TestBraceletsOfNoWords(t *testing.T) {
	for _, bad := range wrongWords() {
		if got, ok := impl.MirrorWord(bad); ok || len(got) > 0 {
			t.Errorf("MirrorWord(%v) = %v, %v", bad, got, ok)
		}
		if got, ok := impl.LeastBracelet(bad); ok || len(got) > 0 {
			t.Errorf("LeastBracelet(%v) = %v, %v", bad, got, ok)
		}
		if impl.IsBracelet(bad) || impl.IsMirrored(bad) {
			t.Errorf("IsBracelet(%v) = %v, IsMirrored(%v) = %v", bad, impl.IsBracelet(bad), bad, impl.IsMirrored(bad))
		}
		if got := impl.AxesOf(bad); len(got) > 0 {
			t.Errorf("AxesOf(%v) = %v", bad, got)
		}
	}
}

func TestBraceletArgumentsAreLeft(t *testing.T) {
	var words [][]int
	someWords(func(word []int) {
		words = append(words, slices.Clone(word))
	})
	for _, l := range append(words, wrongWords()...) {
		word, store := withSpare(l)
		before := slices.Clone(store)
		impl.MirrorWord(word)
		impl.LeastBracelet(word)
		impl.IsBracelet(word)
		impl.IsMirrored(word)
		impl.AxesOf(word)
		if !slices.Equal(store, before) {
			t.Errorf("an argument %v, or what is behind it, is changed: %v", l, store)
		}
	}
}

// braceletResults returns all results for a word that are lists, each of one call.
func braceletResults(_ [][]int, word []int) [][][]int {
	mirror, _ := impl.MirrorWord(word)
	least, _ := impl.LeastBracelet(word)
	all := [][][]int{{mirror}, {least}, {impl.AxesOf(word)}}
	for k := 1; k <= 4; k++ {
		bracelets, _ := impl.BraceletsOf(len(word), k)
		all = append(all, bracelets)
	}
	return all
}

func TestBraceletResultsAreNew(t *testing.T) {
	for n := 1; n <= 10; n++ {
		for i, word := range someColorings(n) {
			if n != 4 || i%4 == 0 {
				checkResultsAreNew(t, nil, word, braceletResults)
			}
		}
	}
}

func TestBraceletResultsAreAlwaysEqual(t *testing.T) {
	words := slices.Concat(someColorings(3), someColorings(6), someColorings(10))
	checkAlwaysEqual(t, words, func(word []int) []any {
		n := len(word)
		return []any{
			braceletResults(nil, word), impl.IsBracelet(word), impl.IsMirrored(word),
			impl.CountBracelets(n, 3), impl.CountMirrored(n, 3), impl.HandedPairs(n, 3),
		}
	})
}

func TestBraceletGoroutinesEnd(t *testing.T) {
	before := runtime.NumGoroutine()
	for n := range 12 {
		for k := range 6 {
			word := slices.Repeat([]int{k - 1}, n)
			impl.LeastBracelet(word)
			impl.IsBracelet(word)
			impl.IsMirrored(word)
			impl.BraceletsOf(n, k)
		}
	}
	checkGoroutinesEnd(t, before)
}
