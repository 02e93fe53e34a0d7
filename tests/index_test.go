package tests

import (
	"fmt"
	"math"
	"slices"
	"strings"
	"testing"

	"loop.example/g01041/impl"
)

// extremes are integers far from those that mean something.
var extremes = []int{-2, -3, -4, -10, 100, 256, 257, 1 << 32, 1<<32 + 1, 1<<32 + 4, math.MaxInt, math.MaxInt - 1, math.MinInt, math.MinInt + 1, math.MinInt + 4}

// lengthsOf returns the lengths of the cycles of p, found without impl.
func lengthsOf(p []int) []int {
	var lengths []int
	met := make([]bool, len(p))
	for i := range p {
		length := 0
		for x := i; !met[x]; x = p[x] {
			met[x] = true
			length++
		}
		if length > 0 {
			lengths = append(lengths, length)
		}
	}
	return lengths
}

// typeOf returns how many cycles of p have each length, found without impl.
func typeOf(p []int) []int {
	numbers := make([]int, len(p))
	for _, length := range lengthsOf(p) {
		numbers[length-1]++
	}
	return numbers
}

func power(base int, exponent int) int {
	r := 1
	for range exponent {
		r *= base
	}
	return r
}

// contentsOf returns how many points have each of k colors.
func contentsOf(list []int, k int) []int {
	contents := make([]int, k)
	for _, color := range list {
		contents[color]++
	}
	return contents
}

// allContents returns the contents of n points with k colors.
func allContents(n int, k int) [][]int {
	if k == 0 {
		if n == 0 {
			return [][]int{{}}
		}
		return nil
	}
	var all [][]int
	for first := range n + 1 {
		for _, rest := range allContents(n-first, k-1) {
			all = append(all, append([]int{first}, rest...))
		}
	}
	return all
}

// waysToColor returns in how many ways things of these sizes can have colors of
// which there are just so many.
func waysToColor(sizes []int, left []int) int {
	if len(sizes) == 0 {
		if slices.ContainsFunc(left, func(x int) bool { return x != 0 }) {
			return 0
		}
		return 1
	}
	ways := 0
	for color := range left {
		if left[color] >= sizes[0] {
			less := slices.Clone(left)
			less[color] -= sizes[0]
			ways += waysToColor(sizes[1:], less)
		}
	}
	return ways
}

// indexByDefinition returns the types of the elements in order, and how many
// elements have each.
func indexByDefinition(g [][]int) ([][]int, []int) {
	var types [][]int
	for _, p := range g {
		types = append(types, typeOf(p))
	}
	slices.SortFunc(types, slices.Compare)
	different := slices.CompactFunc(slices.Clone(types), slices.Equal)
	var counts []int
	for _, x := range different {
		count := 0
		for _, y := range types {
			if slices.Equal(x, y) {
				count++
			}
		}
		counts = append(counts, count)
	}
	return different, counts
}

// leastColorings returns, in lexicographic order, the colorings with k colors
// that no element of g carries to a lesser one, found without impl.
func leastColorings(g [][]int, k int) [][]int {
	var least [][]int
	for _, list := range allLists(upTo(k), len(g[0])) {
		lesser := func(p []int) bool { return slices.Compare(carried(p, list), list) < 0 }
		if !slices.ContainsFunc(g, lesser) {
			least = append(least, list)
		}
	}
	return least
}

// patterns counts the colorings with k colors up to g by their contents.
func patterns(g [][]int, k int) map[string]int {
	counts := map[string]int{}
	for _, list := range leastColorings(g, k) {
		counts[keyOf(contentsOf(list, k))]++
	}
	return counts
}

// moreGroups returns someGroups and all permutations of up to five points.
func moreGroups(t *testing.T) [][][]int {
	groups := someGroups(t)
	for n := 3; n <= 5; n++ {
		all := permsOf(n)
		slices.SortFunc(all, slices.Compare)
		pairs, _ := impl.PairGroup(all)
		groups = append(groups, all, pairs)
	}
	return groups
}

func groupOf(t *testing.T, generators ...[]int) [][]int {
	t.Helper()
	g, ok := closure(len(generators[0]), generators, 120)
	if !ok {
		t.Fatalf("%v are no generators of a group", generators)
	}
	return g
}

func equalTerms(a []impl.Term, b []impl.Term) bool {
	return slices.EqualFunc(a, b, func(x impl.Term, y impl.Term) bool {
		return x.Count == y.Count && slices.Equal(x.Type, y.Type)
	})
}

func TestCycleIndex(t *testing.T) {
	cases := []struct {
		g    [][]int
		want []impl.Term
	}{
		{[][]int{{0}}, []impl.Term{{Type: []int{1}, Count: 1}}},
		{[][]int{{0, 1}}, []impl.Term{{Type: []int{2, 0}, Count: 1}}},
		{[][]int{{0, 1}, {1, 0}}, []impl.Term{{Type: []int{0, 1}, Count: 1}, {Type: []int{2, 0}, Count: 1}}},
		{groupOf(t, []int{1, 2, 0}), []impl.Term{{Type: []int{0, 0, 1}, Count: 2}, {Type: []int{3, 0, 0}, Count: 1}}},
		{groupOf(t, []int{1, 2, 0}, []int{1, 0, 2}), []impl.Term{{Type: []int{0, 0, 1}, Count: 2}, {Type: []int{1, 1, 0}, Count: 3}, {Type: []int{3, 0, 0}, Count: 1}}},
		{groupOf(t, []int{1, 2, 3, 0}), []impl.Term{{Type: []int{0, 0, 0, 1}, Count: 2}, {Type: []int{0, 2, 0, 0}, Count: 1}, {Type: []int{4, 0, 0, 0}, Count: 1}}},
		{groupOf(t, []int{1, 2, 3, 0}, []int{3, 2, 1, 0}),
			[]impl.Term{{Type: []int{0, 0, 0, 1}, Count: 2}, {Type: []int{0, 2, 0, 0}, Count: 3}, {Type: []int{2, 1, 0, 0}, Count: 2}, {Type: []int{4, 0, 0, 0}, Count: 1}}},
		{groupOf(t, []int{1, 2, 3, 0}, []int{1, 0, 2, 3}),
			[]impl.Term{{Type: []int{0, 0, 0, 1}, Count: 6}, {Type: []int{0, 2, 0, 0}, Count: 3}, {Type: []int{1, 0, 1, 0}, Count: 8}, {Type: []int{2, 1, 0, 0}, Count: 6}, {Type: []int{4, 0, 0, 0}, Count: 1}}},
		{groupOf(t, []int{1, 2, 3, 4, 0}, []int{1, 0, 2, 3, 4}), []impl.Term{
			{Type: []int{0, 0, 0, 0, 1}, Count: 24}, {Type: []int{0, 1, 1, 0, 0}, Count: 20}, {Type: []int{1, 0, 0, 1, 0}, Count: 30}, {Type: []int{1, 2, 0, 0, 0}, Count: 15},
			{Type: []int{2, 0, 1, 0, 0}, Count: 20}, {Type: []int{3, 1, 0, 0, 0}, Count: 10}, {Type: []int{5, 0, 0, 0, 0}, Count: 1}}},
		{groupOf(t, cycling(10, upTo(10))), []impl.Term{
			{Type: []int{0, 0, 0, 0, 0, 0, 0, 0, 0, 1}, Count: 4}, {Type: []int{0, 0, 0, 0, 2, 0, 0, 0, 0, 0}, Count: 4},
			{Type: []int{0, 5, 0, 0, 0, 0, 0, 0, 0, 0}, Count: 1}, {Type: []int{10, 0, 0, 0, 0, 0, 0, 0, 0, 0}, Count: 1}}},
		{[][]int{upTo(10)}, []impl.Term{{Type: []int{10, 0, 0, 0, 0, 0, 0, 0, 0, 0}, Count: 1}}},
	}
	for _, c := range cases {
		if got := impl.CycleIndex(c.g); !equalTerms(got, c.want) {
			t.Errorf("CycleIndex(%v) = %v, want %v", c.g, got, c.want)
		}
	}
	for _, bad := range notGroups() {
		if got := impl.CycleIndex(bad); len(got) != 0 {
			t.Errorf("CycleIndex(%v) = %v", bad, got)
		}
	}
}

func TestCycleIndexOfSomeGroups(t *testing.T) {
	for _, g := range moreGroups(t) {
		types, counts := indexByDefinition(g)
		got := impl.CycleIndex(g)
		if len(got) != len(types) {
			t.Errorf("CycleIndex(%v) = %v, want %v", g, got, types)
			continue
		}
		for i, x := range got {
			if !slices.Equal(x.Type, types[i]) || x.Count != counts[i] {
				t.Errorf("CycleIndex(%v) = %v, want %v, %v", g, got, types, counts)
			}
		}
		if order := impl.IndexOrder(got); order != len(g) {
			t.Errorf("IndexOrder(CycleIndex(%v)) = %d", g, order)
		}
	}
}

func TestIndexOrder(t *testing.T) {
	cases := []struct {
		list []impl.Term
		want int
	}{
		{nil, 0},
		{[]impl.Term{}, 0},
		{[]impl.Term{{}}, 0},
		{[]impl.Term{{Count: 7}}, 7},
		{[]impl.Term{{Type: []int{1}, Count: 1}, {Type: []int{1}, Count: 1}}, 2},
		{[]impl.Term{{Type: []int{5, -3, math.MinInt}, Count: 4}, {Type: make([]int, 5000), Count: -9}, {Type: []int{math.MaxInt}, Count: 2}}, -3},
		{[]impl.Term{{Count: math.MaxInt}, {Type: []int{0}, Count: math.MinInt}}, -1},
		{[]impl.Term{{Count: math.MinInt}}, math.MinInt},
		{[]impl.Term{{Count: math.MaxInt}, {Count: 1}}, math.MinInt},
		{slices.Repeat([]impl.Term{{Type: []int{2, 1}, Count: 3}}, 1000), 3000},
	}
	for _, c := range cases {
		if got := impl.IndexOrder(c.list); got != c.want {
			t.Errorf("IndexOrder(%v) = %d, want %d", c.list, got, c.want)
		}
	}
}

func TestCountColorings(t *testing.T) {
	square := groupOf(t, []int{1, 2, 3, 0})
	ten := groupOf(t, cycling(10, upTo(10)))
	five := groupOf(t, []int{1, 2, 3, 4, 0}, []int{1, 0, 2, 3, 4})
	cases := []struct {
		g    [][]int
		want [5]int
	}{
		{[][]int{{0}}, [5]int{0, 1, 2, 3, 4}},
		{[][]int{{0, 1}, {1, 0}}, [5]int{0, 1, 3, 6, 10}},
		{square, [5]int{0, 1, 6, 24, 70}},
		{groupOf(t, []int{1, 2, 3, 0}, []int{3, 2, 1, 0}), [5]int{0, 1, 6, 21, 55}},
		{five, [5]int{0, 1, 6, 21, 56}},
		{ten, [5]int{0, 1, 108, 5934, 104968}},
		{groupOf(t, cycling(10, upTo(10)), []int{9, 8, 7, 6, 5, 4, 3, 2, 1, 0}), [5]int{0, 1, 78, 3210, 53764}},
		{[][]int{upTo(10)}, [5]int{0, 1, 1024, 59049, 1048576}},
	}
	for _, c := range cases {
		for k, want := range c.want {
			if got := impl.CountColorings(c.g, k); got != want {
				t.Errorf("CountColorings(%v, %d) = %d, want %d", c.g, k, got, want)
			}
		}
	}
	// There are 34 graphs of five vertices, and 11 of four.
	for n, want := range map[int]int{3: 4, 4: 11, 5: 34} {
		all := permsOf(n)
		slices.SortFunc(all, slices.Compare)
		pairs, _ := impl.PairGroup(all)
		if got := impl.CountColorings(pairs, 2); got != want {
			t.Errorf("there are %d graphs of %d vertices, want %d", got, n, want)
		}
	}
}

func TestCountColoringsOfSomeGroups(t *testing.T) {
	for _, g := range moreGroups(t) {
		terms := impl.CycleIndex(g)
		for k := range 5 {
			byElements, byTerms := 0, 0
			for _, p := range g {
				byElements += power(k, len(lengthsOf(p)))
			}
			for _, x := range terms {
				cycles := 0
				for _, number := range x.Type {
					cycles += number
				}
				byTerms += x.Count * power(k, cycles)
			}
			got := impl.CountColorings(g, k)
			if got != byElements/len(g) || byElements%len(g) != 0 || byTerms != byElements {
				t.Errorf("CountColorings(%v, %d) = %d, want %d, by terms %d", g, k, got, byElements/len(g), byTerms/len(g))
			}
			if power(k, len(g[0])) > 1024 {
				continue
			}
			count := 0
			for _, patternsWith := range patterns(g, k) {
				count += patternsWith
			}
			if got != count {
				t.Errorf("CountColorings(%v, %d) = %d, listed are %d", g, k, got, count)
			}
		}
	}
}

func TestCountColoringsRejects(t *testing.T) {
	check := func(g [][]int, k int) {
		if got := impl.CountColorings(g, k); got != -1 {
			t.Errorf("CountColorings(%v, %d) = %d", g, k, got)
		}
	}
	for _, g := range someGroups(t) {
		check(g, -1)
		check(g, 5)
	}
	for _, k := range append(extremes, 6, 7, 8, 10, 11) {
		check([][]int{{0}}, k)
		check([][]int{{0, 1}, {1, 0}}, k)
		check([][]int{upTo(10)}, k)
		check(nil, k)
	}
	for _, bad := range notGroups() {
		for k := -1; k <= 5; k++ {
			check(bad, k)
		}
	}
}

func TestCountFixed(t *testing.T) {
	turn := cycling(10, upTo(10))
	swaps := cycling(10, []int{0, 1}, []int{2, 3}, []int{4, 5}, []int{6, 7}, []int{8, 9})
	mixed := cycling(10, []int{0, 1, 2, 3}, []int{4, 5, 6}, []int{7, 8})
	cases := []struct {
		p, contents []int
		want        int
	}{
		{[]int{0}, []int{1}, 1},
		{[]int{0}, []int{0, 1}, 1},
		{[]int{0}, []int{0, 0, 0, 1}, 1},
		{[]int{0, 1}, []int{1, 1}, 2},
		{[]int{1, 0}, []int{1, 1}, 0},
		{[]int{1, 0}, []int{2}, 1},
		{[]int{1, 0}, []int{0, 2}, 1},
		{[]int{1, 0, 2}, []int{1, 2}, 1},
		{[]int{1, 0, 2}, []int{2, 1}, 1},
		{[]int{1, 0, 2}, []int{3, 0}, 1},
		{[]int{1, 0, 2}, []int{1, 1, 1}, 0},
		{[]int{1, 0, 3, 2}, []int{2, 2}, 2},
		{[]int{1, 0, 3, 2}, []int{0, 2, 0, 2}, 2},
		{[]int{1, 0, 3, 2}, []int{3, 1}, 0},
		{[]int{0, 1, 2, 3}, []int{1, 1, 1, 1}, 24},
		{upTo(10), []int{10}, 1},
		{upTo(10), []int{0, 0, 0, 10}, 1},
		{upTo(10), []int{0, 10, 0}, 1},
		{upTo(10), []int{5, 5}, 252},
		{upTo(10), []int{3, 3, 2, 2}, 25200},
		{upTo(10), []int{9, 0, 1}, 10},
		{turn, []int{10}, 1},
		{turn, []int{0, 10}, 1},
		{turn, []int{5, 5}, 0},
		{turn, []int{9, 1}, 0},
		{swaps, []int{4, 4, 2}, 30},
		{swaps, []int{2, 2, 2, 4}, 60},
		{swaps, []int{5, 5}, 0},
		{mixed, []int{4, 3, 2, 1}, 1},
		{mixed, []int{5, 5}, 2},
		{mixed, []int{7, 3}, 2},
		{mixed, []int{1, 9}, 1},
		{mixed, []int{8, 2}, 1},
	}
	for _, c := range cases {
		if got := impl.CountFixed(c.p, c.contents); got != c.want {
			t.Errorf("CountFixed(%v, %v) = %d, want %d", c.p, c.contents, got, c.want)
		}
	}
}

func TestCountFixedOfSmallPerms(t *testing.T) {
	for n := 1; n <= 4; n++ {
		lists := allLists(upTo(4), n)
		for _, p := range permsOf(n) {
			counts := map[string]int{}
			for _, list := range lists {
				if slices.Equal(carried(p, list), list) {
					counts[keyOf(contentsOf(list, 4))]++
				}
			}
			// All lists of numbers, of which not all are contents.
			for k := range 5 {
				for _, contents := range allLists(upTo(n+2), k) {
					key := keyOf(append(slices.Clone(contents), make([]int, 4-k)...))
					if got := impl.CountFixed(p, contents); got != counts[key] {
						t.Errorf("CountFixed(%v, %v) = %d, want %d", p, contents, got, counts[key])
					}
				}
			}
		}
	}
}

func TestCountFixedOfSomePerms(t *testing.T) {
	for i, p := range somePerms() {
		n, lengths := len(p), lengthsOf(p)
		for k := range 5 {
			sum := 0
			for j, contents := range allContents(n, k) {
				got := impl.CountFixed(p, contents)
				sum += got
				if n > 5 && (i+j)%29 > 0 {
					continue
				}
				if want := waysToColor(lengths, contents); got != want {
					t.Errorf("CountFixed(%v, %v) = %d, want %d", p, contents, got, want)
				}
			}
			if want := power(k, len(lengths)); sum != want {
				t.Errorf("%v carries %d colorings with %d colors to themselves, want %d", p, sum, k, want)
			}
		}
	}
}

// notContents returns lists that are no contents of n points.
func notContents(n int) [][]int {
	return [][]int{
		nil, {}, {0}, {0, 0}, {0, 0, 0, 0}, {n + 1}, {n - 1}, {n, 1}, {0, 0, 0, n + 1}, {0, n - 1, 0}, {n, n}, {n - 1, 0, 2}, {11}, {12}, {10, 10}, {11, 0},
		// Of five elements or more.
		{n, 0, 0, 0, 0}, {0, 0, 0, 0, n}, {0, 0, n, 0, 0}, {n - 1, 0, 0, 0, 1}, {0, n, 0, 0, 0, 0}, append(make([]int, 4999), n), make([]int, 5), {n - 5, 1, 1, 1, 1, 1},
		// With negative elements, or ones greater than 10, of which some have the right sum, or would have it after wrapping around.
		{-n}, {n + 1, -1}, {-1, n + 1}, {n + 1, 0, 0, -1}, {n + 1, -2, 1, 0}, {-n, n, n}, {10, n - 11, 1}, {n, -1, 1}, {11, n - 11}, {n - 11, 11}, {0, n - 12, 12, 0},
		{math.MinInt, n, math.MinInt}, {math.MaxInt, math.MaxInt, n + 2}, {n + 2, math.MaxInt, 0, math.MaxInt}, {math.MinInt + n, math.MaxInt, 1},
		{1<<62 + n, 1 << 62, 1 << 62, 1 << 62}, {1 << 62, 1 << 62, 1 << 62, 1<<62 + n}, {1<<32 + n}, {1 << 32, n}, {256 + n}, {n, 256}, {math.MaxInt}, {math.MinInt},
	}
}

func TestCountFixedRejects(t *testing.T) {
	check := func(p []int, contents []int) {
		if got := impl.CountFixed(p, contents); got != 0 {
			t.Errorf("CountFixed(%v, %v) = %d", p, contents, got)
		}
	}
	for n := 1; n <= 10; n++ {
		for _, contents := range notContents(n) {
			check(upTo(n), contents)
			check(cycling(n, upTo(n)), contents)
			check(cycling(n, upTo(n/2)), contents)
		}
	}
	for _, bad := range notPerms() {
		n := len(bad)
		check(bad, nil)
		check(bad, []int{0})
		check(bad, []int{n})
		check(bad, []int{0, n})
		check(bad, []int{n / 2, n - n/2})
		check(bad, []int{n - 1, 1})
		check(bad, []int{10, n - 10})
		check(bad, bad)
	}
}

// arrangements returns the different orders of the elements of list.
func arrangements(list []int) [][]int {
	var all [][]int
	for _, p := range permsOf(len(list)) {
		all = append(all, carried(p, list))
	}
	slices.SortFunc(all, slices.Compare)
	return slices.CompactFunc(all, slices.Equal)
}

// contentsUpToOrder returns those of allContents that ascend.
func contentsUpToOrder(n int, k int) [][]int {
	return slices.DeleteFunc(allContents(n, k), func(l []int) bool { return !slices.IsSorted(l) })
}

func TestCountContents(t *testing.T) {
	square := groupOf(t, []int{1, 2, 3, 0})
	ten := groupOf(t, cycling(10, upTo(10)))
	cases := []struct {
		g        [][]int
		contents []int
		want     int
	}{
		{[][]int{{0}}, []int{1}, 1},
		{[][]int{{0}}, []int{0, 0, 0, 1}, 1},
		{square, []int{4}, 1},
		{square, []int{0, 0, 4}, 1},
		{square, []int{2, 2}, 2},
		{square, []int{1, 3}, 1},
		{square, []int{2, 1, 1}, 3},
		{square, []int{1, 1, 1, 1}, 6},
		{groupOf(t, []int{1, 2, 3, 0}, []int{3, 2, 1, 0}), []int{1, 1, 1, 1}, 3},
		{ten, []int{10}, 1},
		{ten, []int{0, 10}, 1},
		{ten, []int{5, 5}, 26},
		{ten, []int{3, 3, 2, 2}, 2520},
		{[][]int{upTo(10)}, []int{3, 3, 2, 2}, 25200},
		{[][]int{upTo(10)}, []int{0, 0, 10, 0}, 1},
		{groupOf(t, cycling(10, upTo(10)), []int{9, 8, 7, 6, 5, 4, 3, 2, 1, 0}), []int{5, 5}, 16},
	}
	for _, c := range cases {
		if got := impl.CountContents(c.g, c.contents); got != c.want {
			t.Errorf("CountContents(%v, %v) = %d, want %d", c.g, c.contents, got, c.want)
		}
	}
}

func TestCountContentsOfSomeGroups(t *testing.T) {
	for _, g := range moreGroups(t) {
		n := len(g[0])
		for k := range 5 {
			listed := map[string]int{}
			if power(k, n) <= 1024 {
				listed = patterns(g, k)
			}
			all := 0
			for _, contents := range contentsUpToOrder(n, k) {
				got, sum := impl.CountContents(g, contents), 0
				for _, p := range g {
					sum += impl.CountFixed(p, contents)
				}
				if got != sum/len(g) || sum%len(g) != 0 {
					t.Errorf("CountContents(%v, %v) = %d, while CountFixed adds up to %d", g, contents, got, sum)
				}
				if want := listed[keyOf(contents)]; len(listed) > 0 && got != want {
					t.Errorf("CountContents(%v, %v) = %d, listed are %d", g, contents, got, want)
				}
				all += got * len(arrangements(contents))
			}
			if want := impl.CountColorings(g, k); all != want {
				t.Errorf("%v has %d colorings with all contents of %d colors, want %d", g, all, k, want)
			}
		}
	}
}

func TestContentsInAnyOrder(t *testing.T) {
	for _, g := range moreGroups(t) {
		if len(g) > 24 && len(g[0]) > 5 {
			continue
		}
		for i, contents := range contentsUpToOrder(len(g[0]), 4) {
			if len(g[0]) > 5 && i%4 != len(g)%4 {
				continue
			}
			want := impl.CountContents(g, contents)
			for _, other := range arrangements(contents) {
				if got := impl.CountContents(g, other); got != want {
					t.Errorf("CountContents(%v, %v) = %d, for %v it is %d", g, other, got, contents, want)
				}
			}
			// No points of the last colors, or no last colors.
			for k := 3; k >= 0 && contents[3-k] == 0; k-- {
				if got := impl.CountContents(g, contents[4-k:]); got != want {
					t.Errorf("CountContents(%v, %v) = %d, want %d", g, contents[4-k:], got, want)
				}
			}
		}
	}
}

func TestCountContentsRejects(t *testing.T) {
	check := func(g [][]int, contents []int, want int) {
		if got := impl.CountContents(g, contents); got != want {
			t.Errorf("CountContents(%v, %v) = %d, want %d", g, contents, got, want)
		}
	}
	for n := 1; n <= 10; n++ {
		turns := groupOf(t, cycling(n, upTo(n)))
		for _, contents := range notContents(n) {
			check([][]int{upTo(n)}, contents, 0)
			check(turns, contents, 0)
			// That g is no group comes first.
			check(append(slices.Clone(turns), turns[0]), contents, -1)
		}
	}
	for _, bad := range notGroups() {
		check(bad, nil, -1)
		if len(bad) > 0 {
			n := len(bad[0])
			check(bad, []int{n}, -1)
			check(bad, []int{n - 1, 1}, -1)
			check(bad, []int{n, 0, 0, 0, 0}, -1)
		}
	}
}

func TestTwoColors(t *testing.T) {
	fourPairs, _ := impl.PairGroup(groupOf(t, []int{1, 2, 3, 0}, []int{1, 0, 2, 3}))
	fivePairs, _ := impl.PairGroup(groupOf(t, []int{1, 2, 3, 4, 0}, []int{1, 0, 2, 3, 4}))
	cases := []struct {
		g    [][]int
		want []int
	}{
		{[][]int{{0}}, []int{1, 1}},
		{[][]int{{0, 1}}, []int{1, 2, 1}},
		{[][]int{{0, 1}, {1, 0}}, []int{1, 1, 1}},
		{groupOf(t, []int{1, 2, 3, 0}), []int{1, 1, 2, 1, 1}},
		{groupOf(t, []int{1, 0, 2, 3}), []int{1, 3, 4, 3, 1}},
		{groupOf(t, cycling(6, upTo(6))), []int{1, 1, 3, 4, 3, 1, 1}},
		{groupOf(t, cycling(10, upTo(10))), []int{1, 1, 5, 12, 22, 26, 22, 12, 5, 1, 1}},
		{[][]int{upTo(10)}, []int{1, 10, 45, 120, 210, 252, 210, 120, 45, 10, 1}},
		// Graphs of four and of five vertices by their edges.
		{fourPairs, []int{1, 1, 2, 3, 2, 1, 1}},
		{fivePairs, []int{1, 1, 2, 4, 6, 6, 6, 4, 2, 1, 1}},
	}
	for _, c := range cases {
		if got := impl.TwoColors(c.g); !slices.Equal(got, c.want) {
			t.Errorf("TwoColors(%v) = %v, want %v", c.g, got, c.want)
		}
	}
	for _, bad := range notGroups() {
		if got := impl.TwoColors(bad); len(got) != 0 {
			t.Errorf("TwoColors(%v) = %v", bad, got)
		}
	}
}

func TestTwoColorsOfSomeGroups(t *testing.T) {
	for _, g := range moreGroups(t) {
		n, sum := len(g[0]), 0
		var want []int
		listed := patterns(g, 2)
		for k := range n + 1 {
			want = append(want, listed[keyOf([]int{n - k, k})])
			if got := impl.CountContents(g, []int{n - k, k}); got != want[k] {
				t.Errorf("CountContents(%v, %v) = %d, listed are %d", g, []int{n - k, k}, got, want[k])
			}
		}
		got := impl.TwoColors(g)
		if !slices.Equal(got, want) {
			t.Errorf("TwoColors(%v) = %v, want %v", g, got, want)
		}
		for i, x := range got {
			sum += x
			if x != got[len(got)-1-i] {
				t.Errorf("TwoColors(%v) = %v does not read the same from both ends", g, got)
			}
		}
		if all := impl.CountColorings(g, 2); sum != all {
			t.Errorf("TwoColors(%v) = %v adds up to %d, want %d", g, got, sum, all)
		}
	}
}

func TestFormatTerm(t *testing.T) {
	cases := []struct {
		numbers []int
		count   int
		want    string
	}{
		{nil, 0, "0"},
		{[]int{}, 3, "3"},
		{[]int{0}, 3, "3"},
		{[]int{0, 0, 0}, -3, "-3"},
		{make([]int, 5000), 12, "12"},
		{nil, math.MinInt, "-9223372036854775808"},
		{nil, math.MaxInt, "9223372036854775807"},
		{[]int{1}, 1, "1*s1"},
		{[]int{1}, 0, "0*s1"},
		{[]int{1}, -1, "-1*s1"},
		{[]int{2}, 1, "1*s1^2"},
		{[]int{0, 1}, 1, "1*s2"},
		{[]int{0, 2, 0, 0}, 3, "3*s2^2"},
		{[]int{2, 0, 1}, 5, "5*s1^2 s3"},
		{[]int{1, 1, 0}, 3, "3*s1 s2"},
		{[]int{1, 2, 3}, 4, "4*s1 s2^2 s3^3"},
		{[]int{10, 0, 0, 0, 0, 0, 0, 0, 0, 0}, 1, "1*s1^10"},
		{[]int{0, 0, 0, 0, 0, 0, 0, 0, 0, 1}, 4, "4*s10"},
		{[]int{0, 1, 1, 0, 1, 0, 0, 0, 0, 0}, 8, "8*s2 s3 s5"},
		{[]int{0, 0, 0, 0, 0, 0, 0, 0, 0, 0, 1, 11}, 120, "120*s11 s12^11"},
		{[]int{-1}, 2, "2*s1^-1"},
		{[]int{0, -2, 1}, -7, "-7*s2^-2 s3"},
		{[]int{math.MinInt, math.MaxInt}, math.MinInt, "-9223372036854775808*s1^-9223372036854775808 s2^9223372036854775807"},
		{append(make([]int, 999), 1), 1, "1*s1000"},
	}
	for _, c := range cases {
		if got := impl.FormatTerm(impl.Term{Type: c.numbers, Count: c.count}); got != c.want {
			t.Errorf("FormatTerm(%v, %d) = %q, want %q", c.numbers, c.count, got, c.want)
		}
	}
	if got := impl.FormatTerm(impl.Term{}); got != "0" {
		t.Errorf("FormatTerm of the zero value = %q", got)
	}
}

func TestFormatTermOfAllShortTypes(t *testing.T) {
	for n := range 5 {
		for _, numbers := range allLists([]int{-1, 0, 1, 2, 10}, n) {
			for _, count := range []int{-12, 0, 1, 30} {
				var parts []string
				for i, number := range numbers {
					if number == 1 {
						parts = append(parts, fmt.Sprint("s", i+1))
					} else if number != 0 {
						parts = append(parts, fmt.Sprintf("s%d^%d", i+1, number))
					}
				}
				want := fmt.Sprint(count)
				if len(parts) > 0 {
					want += "*" + strings.Join(parts, " ")
				}
				if got := impl.FormatTerm(impl.Term{Type: numbers, Count: count}); got != want {
					t.Errorf("FormatTerm(%v, %d) = %q, want %q", numbers, count, got, want)
				}
			}
		}
	}
}

func TestFixedPairs(t *testing.T) {
	for _, g := range moreGroups(t) {
		pairs := 0
		for _, p := range g {
			for i, x := range p {
				if i == x {
					pairs++
				}
			}
		}
		got := impl.FixedPairs(g)
		if got != pairs {
			t.Errorf("FixedPairs(%v) = %d, want %d", g, got, pairs)
		}
		if orbits := len(impl.OrbitsOf(g)); got != orbits*len(g) {
			t.Errorf("FixedPairs(%v) = %d, with %d orbits", g, got, orbits)
		}
	}
	for n := 1; n <= 10; n++ {
		if got := impl.FixedPairs([][]int{upTo(n)}); got != n {
			t.Errorf("FixedPairs of the identity of degree %d = %d", n, got)
		}
	}
	for _, bad := range notGroups() {
		if got := impl.FixedPairs(bad); got != -1 {
			t.Errorf("FixedPairs(%v) = %d", bad, got)
		}
	}
}

func TestIndexArgumentsAreLeft(t *testing.T) {
	for _, lists := range append(someGroups(t), notGroups()...) {
		if len(lists) > 200 {
			continue
		}
		g, stored := spareLists(lists)
		p := upTo(4)
		if len(g) > 0 {
			p = g[len(g)-1]
		}
		contents, storeContents := withSpare([]int{1, len(p) - 1})
		before, beforeContents := stored(), slices.Clone(storeContents)
		impl.CycleIndex(g)
		impl.TwoColors(g)
		impl.FixedPairs(g)
		for k := -1; k <= 5; k++ {
			impl.CountColorings(g, k)
		}
		for _, q := range g[:min(len(g), 12)] {
			impl.CountFixed(q, contents)
			impl.CountFixed(q, q)
		}
		impl.CountContents(g, contents)
		impl.CountContents(g, p)
		if stored() != before || !slices.Equal(storeContents, beforeContents) {
			t.Errorf("an argument %v, or what is behind it, is changed: %s, %v", lists, stored(), storeContents)
		}
	}
}

func TestTermsAreLeft(t *testing.T) {
	for _, numbers := range [][]int{nil, {}, {0}, {1}, {2, 0, 1}, {-1, 5}, {0, 0, 0, 0, 0, 0, 0, 0, 0, 0, 3}} {
		head, store := withSpare(numbers)
		x := impl.Term{Type: head, Count: 3}
		whole := []impl.Term{x, {Type: head, Count: 4}, {Count: 5}, {Type: head, Count: 6}}
		before := fmt.Sprint(whole, store)
		impl.IndexOrder(whole[:2])
		impl.FormatTerm(x)
		impl.FormatTerm(whole[1])
		if got := fmt.Sprint(whole, store); got != before {
			t.Errorf("an argument, or what is behind it, is changed: %s, before %s", got, before)
		}
	}
}

// indexResults returns all lists of the results for g, and these as a text.
func indexResults(g [][]int) ([][]int, []impl.Term, string) {
	terms, numbers := impl.CycleIndex(g), impl.TwoColors(g)
	text := fmt.Sprint(terms, numbers)
	lists := [][]int{numbers}
	for _, x := range terms {
		lists = append(lists, x.Type)
	}
	return lists, terms, text
}

// TestIndexResultsAreNew overwrites each list of each result, in both orders,
// and then the result itself: neither an argument, nor another list of the
// result, nor a later one may show it.
func TestIndexResultsAreNew(t *testing.T) {
	for _, g := range someGroups(t) {
		argument := cloneLists(g)
		lists, terms, want := indexResults(argument)
		again, _, _ := indexResults(argument)
		all := slices.Concat(lists, again)
		forward := overwrite(all)
		slices.Reverse(all)
		if !forward || !overwrite(all) {
			t.Fatalf("two lists of the results for %v share memory", g)
		}
		clear(terms[:cap(terms)])
		if !equalLists(argument, g) {
			t.Fatalf("a result for %v shares memory with it", g)
		}
		if _, _, got := indexResults(argument); got != want {
			t.Fatalf("the results for %v are others after the first ones were changed: %s, before %s", g, got, want)
		}
	}
}

// TestIndexResultsAreAlwaysEqual repeats calls, as a map is ranged over in
// another order each time.
func TestIndexResultsAreAlwaysEqual(t *testing.T) {
	for _, c := range groupCases() {
		g := c.elements(t)
		contents := []int{c.degree / 3, c.degree/3 + c.degree%3, c.degree / 3}
		_, _, want := indexResults(g)
		wantCount := impl.CountContents(g, contents)
		for range 10 {
			if _, _, got := indexResults(g); got != want {
				t.Fatalf("the results for %v are %s, before %s", g, got, want)
			}
			if got := impl.CountContents(g, contents); got != wantCount {
				t.Fatalf("CountContents(%v, %v) = %d, before %d", g, contents, got, wantCount)
			}
		}
	}
}
