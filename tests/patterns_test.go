package tests

import (
	"fmt"
	"slices"
	"testing"

	"loop.example/g01041/impl"
)

// imagesOf returns the different colorings to which elements of g carry list,
// in lexicographic order, found without impl.
func imagesOf(g [][]int, list []int) [][]int {
	var images [][]int
	for _, p := range g {
		images = append(images, carried(p, list))
	}
	slices.SortFunc(images, slices.Compare)
	return slices.CompactFunc(images, slices.Equal)
}

// keepersOf returns the elements of g that carry list to itself, found without impl.
func keepersOf(g [][]int, list []int) [][]int {
	return slices.DeleteFunc(slices.Clone(g), func(p []int) bool { return !slices.Equal(carried(p, list), list) })
}

// isListed reports whether PatternsOf lists the patterns of degree n with k colors.
func isListed(n int, k int) bool {
	return power(k, n) <= 1024
}

// listedPatterns calls check with each group of moreGroups and each number of
// colors for which its patterns are listed.
func listedPatterns(t *testing.T, check func(g [][]int, k int)) {
	for _, g := range moreGroups(t) {
		for k := 1; k <= 4; k++ {
			if isListed(len(g[0]), k) {
				check(g, k)
			}
		}
	}
}

func identityOf(n int) [][]int {
	return [][]int{upTo(n)}
}

func turnsOf(t *testing.T, n int) [][]int {
	return groupOf(t, cycling(n, upTo(n)))
}

func allOfFive(t *testing.T) [][]int {
	return groupOf(t, cycling(5, upTo(5)), cycling(5, upTo(2)))
}

// allOfFiveOnPairs returns the group up to which colorings with two colors are
// graphs of five vertices.
func allOfFiveOnPairs(t *testing.T) [][]int {
	return groupOf(t, onSubsets(cycling(5, upTo(5)), 2), onSubsets(cycling(5, upTo(2)), 2))
}

func TestCanonOf(t *testing.T) {
	cases := []struct {
		g          [][]int
		list, want []int
	}{
		{identityOf(1), []int{0}, []int{0}},
		{identityOf(1), []int{3}, []int{3}},
		{identityOf(3), []int{2, 1, 0}, []int{2, 1, 0}},
		{identityOf(10), []int{3, 2, 1, 0, 3, 2, 1, 0, 3, 2}, []int{3, 2, 1, 0, 3, 2, 1, 0, 3, 2}},
		{turnsOf(t, 2), []int{1, 0}, []int{0, 1}},
		{turnsOf(t, 2), []int{0, 1}, []int{0, 1}},
		{turnsOf(t, 4), []int{1, 0, 0, 0}, []int{0, 0, 0, 1}},
		{turnsOf(t, 4), []int{1, 0, 1, 0}, []int{0, 1, 0, 1}},
		{turnsOf(t, 4), []int{2, 2, 2, 2}, []int{2, 2, 2, 2}},
		{turnsOf(t, 4), []int{0, 3, 2, 1}, []int{0, 3, 2, 1}},
		{groupOf(t, cycling(4, upTo(4)), []int{3, 2, 1, 0}), []int{0, 3, 2, 1}, []int{0, 1, 2, 3}},
		{[][]int{{0, 1, 2}, {1, 0, 2}}, []int{1, 0, 0}, []int{0, 1, 0}},
		{[][]int{{0, 1, 2}, {1, 0, 2}}, []int{3, 3, 0}, []int{3, 3, 0}},
		{turnsOf(t, 10), []int{3, 0, 0, 1, 0, 0, 0, 2, 0, 0}, []int{0, 0, 0, 2, 0, 0, 3, 0, 0, 1}},
		{allOfFive(t), []int{3, 1, 2, 0, 1}, []int{0, 1, 1, 2, 3}},
		// One edge, and one path of two edges.
		{allOfFiveOnPairs(t), []int{1, 0, 0, 0, 1, 0, 0, 0, 0, 0}, []int{0, 0, 0, 0, 0, 0, 0, 0, 1, 1}},
		{allOfFiveOnPairs(t), []int{1, 0, 0, 0, 0, 0, 0, 0, 0, 0}, []int{0, 0, 0, 0, 0, 0, 0, 0, 0, 1}},
	}
	for _, c := range cases {
		if got, ok := impl.CanonOf(c.g, c.list); !ok || !slices.Equal(got, c.want) {
			t.Errorf("CanonOf(%v, %v) = %v, %v, want %v", c.g, c.list, got, ok, c.want)
		}
		if got, want := impl.IsCanonical(c.g, c.list), slices.Equal(c.list, c.want); got != want {
			t.Errorf("IsCanonical(%v, %v) = %v", c.g, c.list, got)
		}
		if !impl.IsCanonical(c.g, c.want) {
			t.Errorf("IsCanonical(%v, %v) = false", c.g, c.want)
		}
	}
}

func TestCanonOfSomeGroups(t *testing.T) {
	for _, g := range moreGroups(t) {
		for _, list := range someColorings(len(g[0])) {
			want := imagesOf(g, list)[0]
			if got, ok := impl.CanonOf(g, list); !ok || !slices.Equal(got, want) {
				t.Errorf("CanonOf(%v, %v) = %v, %v, want %v", g, list, got, ok, want)
			}
			if got := impl.IsCanonical(g, list); got != slices.Equal(list, want) {
				t.Errorf("IsCanonical(%v, %v) = %v", g, list, got)
			}
			if !impl.IsCanonical(g, want) {
				t.Errorf("IsCanonical(%v, %v) = false", g, want)
			}
		}
	}
}

func TestColoringsOfOneColor(t *testing.T) {
	for _, g := range moreGroups(t) {
		for color := range 4 {
			list := slices.Repeat([]int{color}, len(g[0]))
			if got, ok := impl.CanonOf(g, list); !ok || !slices.Equal(got, list) || !impl.IsCanonical(g, list) {
				t.Errorf("CanonOf(%v, %v) = %v, %v", g, list, got, ok)
			}
			if got := impl.KeepersOf(g, list); !equalLists(got, g) || impl.CountImages(g, list) != 1 {
				t.Errorf("KeepersOf(%v, %v) = %v, with %d images", g, list, got, impl.CountImages(g, list))
			}
		}
	}
}

func TestSamePattern(t *testing.T) {
	square, mirrored := turnsOf(t, 4), groupOf(t, cycling(4, upTo(4)), []int{3, 2, 1, 0})
	cases := []struct {
		g    [][]int
		a, b []int
		want bool
	}{
		{identityOf(1), []int{2}, []int{2}, true},
		{identityOf(1), []int{2}, []int{3}, false},
		{identityOf(2), []int{0, 1}, []int{1, 0}, false},
		{turnsOf(t, 2), []int{0, 1}, []int{1, 0}, true},
		{square, []int{1, 1, 0, 0}, []int{0, 1, 1, 0}, true},
		{square, []int{1, 0, 1, 0}, []int{0, 1, 1, 0}, false},
		{square, []int{0, 1, 2, 3}, []int{3, 2, 1, 0}, false},
		{mirrored, []int{0, 1, 2, 3}, []int{3, 2, 1, 0}, true},
		{mirrored, []int{0, 1, 2, 3}, []int{0, 2, 1, 3}, false},
		// Not the same contents.
		{square, []int{0, 0, 0, 1}, []int{0, 0, 0, 2}, false},
		{square, []int{0, 0, 0, 0}, []int{1, 1, 1, 1}, false},
		{allOfFive(t), []int{0, 1, 2, 3, 3}, []int{3, 0, 3, 2, 1}, true},
		{allOfFive(t), []int{0, 1, 2, 3, 3}, []int{3, 0, 2, 2, 1}, false},
	}
	for _, c := range cases {
		if impl.SamePattern(c.g, c.a, c.b) != c.want || impl.SamePattern(c.g, c.b, c.a) != c.want {
			t.Errorf("SamePattern(%v, %v, %v) = %v", c.g, c.a, c.b, !c.want)
		}
	}
}

// TestOnePatternIfCarried takes all pairs of colorings of small degrees, and
// pairs that follow a fixed rule of greater ones.
func TestOnePatternIfCarried(t *testing.T) {
	for _, g := range moreGroups(t) {
		n := len(g[0])
		lists := someColorings(n)
		step := 1
		if n > 3 {
			step = len(lists)/9 + len(g)/10
		}
		for i, a := range lists {
			images := imagesOf(g, a)
			others := slices.Clone(images[:min(len(images), 2)])
			for j := i % step; j < len(lists); j += step {
				others = append(others, lists[j])
			}
			for _, b := range others {
				want := slices.ContainsFunc(images, func(image []int) bool { return slices.Equal(image, b) })
				if got := impl.SamePattern(g, a, b); got != want {
					t.Fatalf("SamePattern(%v, %v, %v) = %v", g, a, b, got)
				}
			}
		}
	}
}

func TestKeepersOf(t *testing.T) {
	cases := []struct {
		g    [][]int
		list []int
		want [][]int
	}{
		{identityOf(1), []int{3}, [][]int{{0}}},
		{identityOf(10), make([]int, 10), identityOf(10)},
		{turnsOf(t, 2), []int{0, 1}, [][]int{{0, 1}}},
		{turnsOf(t, 2), []int{1, 1}, [][]int{{0, 1}, {1, 0}}},
		{turnsOf(t, 4), []int{0, 1, 0, 1}, [][]int{{0, 1, 2, 3}, {2, 3, 0, 1}}},
		{turnsOf(t, 4), []int{0, 0, 0, 1}, [][]int{{0, 1, 2, 3}}},
		{groupOf(t, cycling(4, upTo(4)), []int{3, 2, 1, 0}), []int{1, 0, 0, 0}, [][]int{{0, 1, 2, 3}, {0, 3, 2, 1}}},
		{groupOf(t, cycling(3, upTo(3)), []int{1, 0, 2}), []int{2, 0, 2}, [][]int{{0, 1, 2}, {2, 1, 0}}},
		{allOfFive(t), []int{1, 1, 2, 0, 0}, [][]int{{0, 1, 2, 3, 4}, {0, 1, 2, 4, 3}, {1, 0, 2, 3, 4}, {1, 0, 2, 4, 3}}},
		{turnsOf(t, 10), []int{0, 1, 0, 1, 0, 1, 0, 1, 0, 1},
			[][]int{upTo(10), {2, 3, 4, 5, 6, 7, 8, 9, 0, 1}, {4, 5, 6, 7, 8, 9, 0, 1, 2, 3}, {6, 7, 8, 9, 0, 1, 2, 3, 4, 5}, {8, 9, 0, 1, 2, 3, 4, 5, 6, 7}}},
		{turnsOf(t, 10), []int{0, 1, 0, 1, 0, 1, 0, 1, 0, 2}, identityOf(10)},
	}
	for _, c := range cases {
		if got := impl.KeepersOf(c.g, c.list); !equalLists(got, c.want) {
			t.Errorf("KeepersOf(%v, %v) = %v, want %v", c.g, c.list, got, c.want)
		}
		if got := impl.CountImages(c.g, c.list); got != len(c.g)/len(c.want) {
			t.Errorf("CountImages(%v, %v) = %d, while %d elements keep it", c.g, c.list, got, len(c.want))
		}
	}
}

func TestKeepersAndImagesOfSomeGroups(t *testing.T) {
	for _, g := range moreGroups(t) {
		for _, list := range someColorings(len(g[0])) {
			keepers, images := impl.KeepersOf(g, list), impl.CountImages(g, list)
			if want := keepersOf(g, list); !equalLists(keepers, want) {
				t.Errorf("KeepersOf(%v, %v) = %v, want %v", g, list, keepers, want)
			}
			if want := len(imagesOf(g, list)); images != want {
				t.Errorf("CountImages(%v, %v) = %d, want %d", g, list, images, want)
			}
			if images*len(keepers) != len(g) || !isGroup(keepers) {
				t.Errorf("%v has %d images up to %v, while the keepers are %v", list, images, g, keepers)
			}
		}
	}
}

func TestPatternsOf(t *testing.T) {
	cases := []struct {
		g    [][]int
		k    int
		want [][]int
	}{
		{identityOf(1), 1, [][]int{{0}}},
		{identityOf(1), 4, [][]int{{0}, {1}, {2}, {3}}},
		{identityOf(2), 2, [][]int{{0, 0}, {0, 1}, {1, 0}, {1, 1}}},
		{identityOf(10), 1, [][]int{make([]int, 10)}},
		{turnsOf(t, 2), 3, [][]int{{0, 0}, {0, 1}, {0, 2}, {1, 1}, {1, 2}, {2, 2}}},
		{turnsOf(t, 4), 2, [][]int{{0, 0, 0, 0}, {0, 0, 0, 1}, {0, 0, 1, 1}, {0, 1, 0, 1}, {0, 1, 1, 1}, {1, 1, 1, 1}}},
		{turnsOf(t, 3), 3, [][]int{{0, 0, 0}, {0, 0, 1}, {0, 0, 2}, {0, 1, 1}, {0, 1, 2}, {0, 2, 1}, {0, 2, 2}, {1, 1, 1}, {1, 1, 2}, {1, 2, 2}, {2, 2, 2}}},
		{groupOf(t, cycling(3, upTo(3)), []int{1, 0, 2}), 3,
			[][]int{{0, 0, 0}, {0, 0, 1}, {0, 0, 2}, {0, 1, 1}, {0, 1, 2}, {0, 2, 2}, {1, 1, 1}, {1, 1, 2}, {1, 2, 2}, {2, 2, 2}}},
		{[][]int{{0, 1, 2}, {1, 0, 2}}, 2, [][]int{{0, 0, 0}, {0, 0, 1}, {0, 1, 0}, {0, 1, 1}, {1, 1, 0}, {1, 1, 1}}},
		{[][]int{{0, 1, 2}, {0, 2, 1}}, 2, [][]int{{0, 0, 0}, {0, 0, 1}, {0, 1, 1}, {1, 0, 0}, {1, 0, 1}, {1, 1, 1}}},
		{allOfFive(t), 2, [][]int{{0, 0, 0, 0, 0}, {0, 0, 0, 0, 1}, {0, 0, 0, 1, 1}, {0, 0, 1, 1, 1}, {0, 1, 1, 1, 1}, {1, 1, 1, 1, 1}}},
	}
	for _, c := range cases {
		if got, ok := impl.PatternsOf(c.g, c.k); !ok || !equalLists(got, c.want) {
			t.Errorf("PatternsOf(%v, %d) = %v, %v, want %v", c.g, c.k, got, ok, c.want)
		}
	}
}

func TestPatternsOfSomeGroups(t *testing.T) {
	listedPatterns(t, func(g [][]int, k int) {
		got, ok := impl.PatternsOf(g, k)
		if !ok || !equalLists(got, leastColorings(g, k)) {
			t.Errorf("PatternsOf(%v, %d) = %v, %v", g, k, got, ok)
		}
		if count := impl.CountColorings(g, k); len(got) != count {
			t.Errorf("%v has %d patterns with %d colors, counted are %d", g, len(got), k, count)
		}
	})
}

// TestPatternsStandForTheirImages: all images together are all colorings, each
// of them once.
func TestPatternsStandForTheirImages(t *testing.T) {
	listedPatterns(t, func(g [][]int, k int) {
		list, _ := impl.PatternsOf(g, k)
		met := map[string]bool{}
		sum := 0
		for _, x := range list {
			sum += impl.CountImages(g, x)
			for _, image := range imagesOf(g, x) {
				met[keyOf(image)] = true
			}
		}
		if want := power(k, len(g[0])); sum != want || len(met) != want {
			t.Errorf("the patterns of %v with %d colors have %d images, %d different ones", g, k, sum, len(met))
		}
	})
}

// TestLimitOfPatterns takes the greatest degree for each number of colors, and
// the next one; the powers of 2 and of 4 are exactly 1024.
func TestLimitOfPatterns(t *testing.T) {
	for k, degree := range map[int]int{1: 10, 2: 10, 3: 6, 4: 5} {
		for n := 1; n <= 10; n++ {
			turns := turnsOf(t, n)
			all, ok := impl.PatternsOf(identityOf(n), k)
			some, alsoOk := impl.PatternsOf(turns, k)
			if ok != (n <= degree) || alsoOk != ok {
				t.Errorf("PatternsOf of degree %d with %d colors: %v, %v", n, k, ok, alsoOk)
			}
			last := slices.Repeat([]int{k - 1}, n)
			if !ok {
				checkNoPatterns(t, identityOf(n), k)
				checkNoPatterns(t, turns, k)
				continue
			}
			if !equalLists(all, allLists(upTo(k), n)) || len(some) != impl.CountColorings(turns, k) {
				t.Errorf("PatternsOf of degree %d with %d colors has %d elements for the identity and %d for the rotations", n, k, len(all), len(some))
			}
			if got := impl.PatternNumber(identityOf(n), k, last); got != power(k, n)-1 {
				t.Errorf("PatternNumber(%v, %d, %v) = %d", identityOf(n), k, last, got)
			}
			if got := impl.PatternNumber(turns, k, last); got != len(some)-1 {
				t.Errorf("PatternNumber(%v, %d, %v) = %d", turns, k, last, got)
			}
			if got := impl.RigidPatterns(identityOf(n), k); got != power(k, n) {
				t.Errorf("RigidPatterns(%v, %d) = %d", identityOf(n), k, got)
			}
		}
	}
}

func TestPatternNumber(t *testing.T) {
	cases := []struct {
		g    [][]int
		k    int
		list []int
		want int
	}{
		{identityOf(1), 1, []int{0}, 0},
		{identityOf(1), 4, []int{3}, 3},
		{identityOf(2), 2, []int{1, 0}, 2},
		{identityOf(10), 2, []int{1, 0, 0, 0, 0, 0, 0, 0, 1, 1}, 515},
		{identityOf(5), 4, []int{3, 3, 3, 3, 2}, 1022},
		{turnsOf(t, 4), 2, []int{0, 0, 0, 0}, 0},
		{turnsOf(t, 4), 2, []int{0, 1, 0, 0}, 1},
		{turnsOf(t, 4), 2, []int{1, 1, 0, 0}, 2},
		{turnsOf(t, 4), 2, []int{1, 0, 1, 0}, 3},
		{turnsOf(t, 4), 2, []int{1, 1, 1, 1}, 5},
		// With more colors there are more patterns before it.
		{turnsOf(t, 4), 3, []int{1, 1, 1, 1}, 18},
		{turnsOf(t, 3), 3, []int{2, 1, 0}, 5},
		{turnsOf(t, 10), 2, []int{1, 1, 1, 1, 1, 1, 1, 1, 1, 1}, 107},
		{allOfFive(t), 4, []int{3, 3, 3, 3, 3}, 55},
		{allOfFive(t), 4, []int{1, 0, 0, 0, 0}, 1},
	}
	for _, c := range cases {
		if got := impl.PatternNumber(c.g, c.k, c.list); got != c.want {
			t.Errorf("PatternNumber(%v, %d, %v) = %d, want %d", c.g, c.k, c.list, got, c.want)
		}
	}
}

// TestEachPatternHasOneNumber takes all colorings, or, if there are many for a
// great group, every few of them beside the patterns.
func TestEachPatternHasOneNumber(t *testing.T) {
	listedPatterns(t, func(g [][]int, k int) {
		least := leastColorings(g, k)
		step := 1 + len(g)*power(k, len(g[0]))/4000
		for i, x := range least {
			for j, image := range imagesOf(g, x) {
				if (i+j)%step > 0 {
					continue
				}
				if got := impl.PatternNumber(g, k, image); got != i {
					t.Fatalf("PatternNumber(%v, %d, %v) = %d, want %d", g, k, image, got, i)
				}
			}
			if i%(1+len(g)/40) > 0 {
				continue
			}
			if got := impl.PatternNumber(g, k, x); got != i {
				t.Fatalf("PatternNumber(%v, %d, %v) = %d, want %d", g, k, x, got, i)
			}
		}
	})
}

// TestGreatestColorAtPatternNumber puts a color of k - 1, of k and of more at
// each point.
func TestGreatestColorAtPatternNumber(t *testing.T) {
	listedPatterns(t, func(g [][]int, k int) {
		least := leastColorings(g, k)
		for at := range g[0] {
			list := make([]int, len(g[0]))
			list[at] = k - 1
			want := slices.IndexFunc(least, func(x []int) bool { return slices.Equal(x, imagesOf(g, list)[0]) })
			if got := impl.PatternNumber(g, k, list); got != want || got < 0 {
				t.Errorf("PatternNumber(%v, %d, %v) = %d, want %d", g, k, list, got, want)
			}
			for color := k; color <= 5; color++ {
				list[at] = color
				if got := impl.PatternNumber(g, k, list); got != -1 {
					t.Errorf("PatternNumber(%v, %d, %v) = %d", g, k, list, got)
				}
			}
		}
		for color := k; color <= 4; color++ {
			list := slices.Repeat([]int{color}, len(g[0]))
			if got := impl.PatternNumber(g, k, list); got != -1 {
				t.Errorf("PatternNumber(%v, %d, %v) = %d", g, k, list, got)
			}
		}
	})
}

func TestRigidPatterns(t *testing.T) {
	triangle := groupOf(t, cycling(3, upTo(3)), []int{1, 0, 2})
	cases := []struct {
		g    [][]int
		k    int
		want int
	}{
		{identityOf(1), 1, 1},
		{identityOf(1), 4, 4},
		{identityOf(10), 1, 1},
		{identityOf(10), 2, 1024},
		{turnsOf(t, 2), 1, 0},
		{turnsOf(t, 2), 2, 1},
		{turnsOf(t, 2), 4, 6},
		{turnsOf(t, 4), 1, 0},
		{turnsOf(t, 4), 2, 3},
		{turnsOf(t, 4), 4, 60},
		{turnsOf(t, 5), 4, 204},
		{turnsOf(t, 6), 3, 116},
		{turnsOf(t, 10), 2, 99},
		{triangle, 2, 0},
		{triangle, 3, 1},
		{triangle, 4, 4},
		// With four colors, two of five points have one color, and can be swapped.
		{allOfFive(t), 4, 0},
		// No graph of five vertices is without symmetry.
		{allOfFiveOnPairs(t), 2, 0},
	}
	for _, c := range cases {
		if got := impl.RigidPatterns(c.g, c.k); got != c.want {
			t.Errorf("RigidPatterns(%v, %d) = %d, want %d", c.g, c.k, got, c.want)
		}
	}
}

func TestRigidPatternsOfSomeGroups(t *testing.T) {
	listedPatterns(t, func(g [][]int, k int) {
		want := 0
		for _, list := range leastColorings(g, k) {
			if len(keepersOf(g, list)) == 1 {
				want++
			}
		}
		if got := impl.RigidPatterns(g, k); got != want {
			t.Errorf("RigidPatterns(%v, %d) = %d, want %d", g, k, got, want)
		}
	})
}

// checkNoPatterns holds that there are no patterns of g with k colors.
func checkNoPatterns(t *testing.T, g [][]int, k int) {
	t.Helper()
	if got, ok := impl.PatternsOf(g, k); ok || len(got) != 0 {
		t.Errorf("PatternsOf(%v, %d) = %v, %v", g, k, got, ok)
	}
	if got := impl.RigidPatterns(g, k); got != -1 {
		t.Errorf("RigidPatterns(%v, %d) = %d", g, k, got)
	}
	lists := [][]int{nil}
	if len(g) > 0 {
		lists = append(lists, g[0], make([]int, len(g[0])))
	}
	for _, list := range lists {
		if got := impl.PatternNumber(g, k, list); got != -1 {
			t.Errorf("PatternNumber(%v, %d, %v) = %d", g, k, list, got)
		}
	}
}

// checkNoCanon holds that list has no pattern up to g.
func checkNoCanon(t *testing.T, g [][]int, list []int) {
	t.Helper()
	if got, ok := impl.CanonOf(g, list); ok || len(got) != 0 {
		t.Errorf("CanonOf(%v, %v) = %v, %v", g, list, got, ok)
	}
	if impl.IsCanonical(g, list) {
		t.Errorf("IsCanonical(%v, %v) = true", g, list)
	}
	if impl.SamePattern(g, list, list) {
		t.Errorf("SamePattern(%v, %v, %v) = true", g, list, list)
	}
	if got := impl.CountImages(g, list); got != 0 {
		t.Errorf("CountImages(%v, %v) = %d", g, list, got)
	}
	if got := impl.KeepersOf(g, list); len(got) != 0 {
		t.Errorf("KeepersOf(%v, %v) = %v", g, list, got)
	}
	for k := range 6 {
		if got := impl.PatternNumber(g, k, list); got != -1 {
			t.Errorf("PatternNumber(%v, %d, %v) = %d", g, k, list, got)
		}
	}
}

func TestPatternsOfNoGroup(t *testing.T) {
	for _, bad := range notGroups() {
		for k := -1; k <= 5; k++ {
			checkNoPatterns(t, bad, k)
		}
		checkNoCanon(t, bad, nil)
		checkNoCanon(t, bad, []int{0})
		checkNoCanon(t, bad, make([]int, 10))
		if len(bad) > 0 {
			checkNoCanon(t, bad, make([]int, len(bad[0])))
			checkNoCanon(t, bad, bad[0])
		}
	}
}

func TestPatternsOfNoColoring(t *testing.T) {
	for _, bad := range notColorings() {
		n := min(max(len(bad), 1), 10)
		checkNoCanon(t, identityOf(n), bad)
		checkNoCanon(t, turnsOf(t, n), bad)
		checkNoCanon(t, nil, bad)
		for _, g := range [][][]int{identityOf(n), turnsOf(t, n)} {
			if good := make([]int, n); impl.SamePattern(g, good, bad) || impl.SamePattern(g, bad, good) {
				t.Errorf("SamePattern(%v, %v, %v) = true", g, good, bad)
			}
		}
	}
}

func TestPatternsOfDifferentDegrees(t *testing.T) {
	for n := 1; n <= 10; n++ {
		for other := range 13 {
			if other == n {
				continue
			}
			for color := range 4 {
				list := slices.Repeat([]int{color}, other)
				checkNoCanon(t, identityOf(n), list)
				checkNoCanon(t, turnsOf(t, n), list)
				if good := slices.Repeat([]int{color}, n); impl.SamePattern(identityOf(n), good, list) || impl.SamePattern(identityOf(n), list, good) {
					t.Errorf("SamePattern of degree %d for %v and %v = true", n, good, list)
				}
			}
		}
	}
}

func TestPatternsWithWrongNumbersOfColors(t *testing.T) {
	for _, g := range someGroups(t) {
		checkNoPatterns(t, g, -1)
		checkNoPatterns(t, g, 0)
		checkNoPatterns(t, g, 5)
	}
	for _, k := range append(extremes, 6, 7, 8, 10, 11) {
		checkNoPatterns(t, identityOf(1), k)
		checkNoPatterns(t, [][]int{{0, 1}, {1, 0}}, k)
		checkNoPatterns(t, identityOf(10), k)
		checkNoPatterns(t, nil, k)
	}
}

func TestPatternArgumentsAreLeft(t *testing.T) {
	for i, lists := range append(someGroups(t), notGroups()...) {
		if len(lists) > 200 {
			continue
		}
		g, stored := spareLists(lists)
		n := 4
		if len(g) > 0 {
			n = len(g[0])
		}
		colors := make([]int, n)
		for j := range colors {
			colors[j] = (i + 3*j + j*j) % 4
		}
		list, storeList := withSpare(colors)
		other, storeOther := withSpare(slices.Repeat([]int{i % 3}, n))
		before := fmt.Sprint(stored(), storeList, storeOther)
		impl.CanonOf(g, list)
		impl.IsCanonical(g, list)
		impl.SamePattern(g, list, other)
		impl.SamePattern(g, other, list)
		impl.CountImages(g, list)
		impl.KeepersOf(g, list)
		for k := range 5 {
			impl.PatternsOf(g, k)
			impl.PatternNumber(g, k, list)
			impl.PatternNumber(g, k, other)
			impl.RigidPatterns(g, k)
		}
		if got := fmt.Sprint(stored(), storeList, storeOther); got != before {
			t.Errorf("an argument %v or %v, or what is behind it, is changed: %s", lists, colors, got)
		}
	}
}

// patternResults returns all results for g and a coloring that are lists, each
// of one call.
func patternResults(g [][]int, list []int) [][][]int {
	canon, _ := impl.CanonOf(g, list)
	all := [][][]int{{canon}, impl.KeepersOf(g, list)}
	for k := 1; k <= 4; k++ {
		patterns, _ := impl.PatternsOf(g, k)
		all = append(all, patterns)
	}
	return all
}

func TestPatternResultsAreNew(t *testing.T) {
	for _, g := range someGroups(t) {
		checkResultsAreNew(t, g, oneColorEach(g[len(g)-1]), patternResults)
		checkResultsAreNew(t, g, make([]int, len(g[0])), patternResults)
	}
}
