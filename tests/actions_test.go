package tests

import (
	"fmt"
	"math"
	"slices"
	"testing"

	"loop.example/g01041/impl"
)

// holdsColors is the definition of a coloring, word for word.
func holdsColors(l []int) bool {
	if len(l) < 1 || len(l) > 10 {
		return false
	}
	for _, x := range l {
		if x != 0 && x != 1 && x != 2 && x != 3 {
			return false
		}
	}
	return true
}

// someColorings returns all colorings of small degrees, and of greater ones
// some that follow a fixed rule.
func someColorings(n int) [][]int {
	if n <= 4 {
		return allLists(upTo(4), n)
	}
	var some [][]int
	for color := range 4 {
		some = append(some, slices.Repeat([]int{color}, n))
		for step := range 4 {
			l := make([]int, n)
			for i := range l {
				l[i] = (color + step*i + i*i*i/7) % 4
			}
			some = append(some, l)
		}
	}
	for at := range n {
		l := make([]int, n)
		l[at] = 3
		some = append(some, l)
	}
	return some
}

// notColorings returns lists that are no coloring.
func notColorings() [][]int {
	lists := [][]int{
		nil, {},
		{-1}, {4}, {5}, {-4}, {10}, {-3}, {256}, {257}, {1 << 32}, {math.MaxInt}, {math.MinInt}, {math.MinInt + 1},
		make([]int, 11), make([]int, 12), make([]int, 100), make([]int, 5000),
		{0, 1, 2, 3, 0, 1, 2, 3, 0, 1, 2}, {3, 3, 3, 3, 3, 3, 3, 3, 3, 3, 3},
	}
	for n := 1; n <= 10; n++ {
		for at := range n {
			for _, x := range []int{-1, 4, math.MaxInt, math.MinInt} {
				for _, color := range []int{0, 3} {
					l := slices.Repeat([]int{color}, n)
					l[at] = x
					lists = append(lists, l)
				}
			}
		}
	}
	return lists
}

// carried has at each point p[i] the color that list has at i.
func carried(p []int, list []int) []int {
	r := make([]int, len(p))
	for i, x := range p {
		r[x] = list[i]
	}
	return r
}

// ascendingLists returns the ascending lists of k points from 0 up to n in
// lexicographic order, found without impl.
func ascendingLists(n int, k int) [][]int {
	var some [][]int
	for _, l := range allLists(upTo(n), k) {
		sorted := slices.Sorted(slices.Values(l))
		if slices.Equal(l, slices.Compact(sorted)) {
			some = append(some, l)
		}
	}
	return some
}

// onSubsets returns how p carries the ascending lists of k points.
func onSubsets(p []int, k int) []int {
	lists := ascendingLists(len(p), k)
	var images []int
	for _, l := range lists {
		var to []int
		for _, x := range l {
			to = append(to, p[x])
		}
		slices.Sort(to)
		images = append(images, slices.IndexFunc(lists, func(other []int) bool { return slices.Equal(to, other) }))
	}
	return images
}

func TestColoringOk(t *testing.T) {
	if impl.MaxColors != 4 {
		t.Errorf("MaxColors = %d", impl.MaxColors)
	}
	for n := range 6 {
		for _, l := range allLists([]int{-1, 0, 1, 2, 3, 4}, n) {
			if got, want := impl.ColoringOk(l), holdsColors(l); got != want {
				t.Errorf("ColoringOk(%v) = %v", l, got)
			}
		}
	}
	for n := 1; n <= 10; n++ {
		for _, l := range someColorings(n) {
			if !impl.ColoringOk(l) {
				t.Errorf("ColoringOk(%v) = false", l)
			}
		}
	}
	for _, bad := range notColorings() {
		if impl.ColoringOk(bad) {
			t.Errorf("ColoringOk of %d colors, %v = true", len(bad), bad)
		}
	}
}

func TestActOn(t *testing.T) {
	cases := []struct{ p, list, want []int }{
		{[]int{0}, []int{0}, []int{0}},
		{[]int{0}, []int{3}, []int{3}},
		{[]int{1, 0}, []int{0, 3}, []int{3, 0}},
		// The inverse would give 1,2,0 and 0,0,3,1.
		{[]int{1, 2, 0}, []int{0, 1, 2}, []int{2, 0, 1}},
		{[]int{2, 0, 3, 1}, []int{0, 1, 0, 3}, []int{1, 3, 0, 0}},
		{[]int{1, 2, 3, 4, 5, 6, 7, 8, 9, 0}, []int{3, 0, 1, 2, 2, 1, 0, 3, 3, 2}, []int{2, 3, 0, 1, 2, 2, 1, 0, 3, 3}},
		{[]int{9, 8, 7, 6, 5, 4, 3, 2, 1, 0}, []int{0, 1, 2, 3, 0, 1, 2, 3, 0, 1}, []int{1, 0, 3, 2, 1, 0, 3, 2, 1, 0}},
	}
	for _, c := range cases {
		if got, ok := impl.ActOn(c.p, c.list); !ok || !slices.Equal(got, c.want) {
			t.Errorf("ActOn(%v, %v) = %v, %v, want %v", c.p, c.list, got, ok, c.want)
		}
	}
	for _, p := range somePerms() {
		for _, list := range someColorings(len(p)) {
			if got, ok := impl.ActOn(p, list); !ok || !slices.Equal(got, carried(p, list)) {
				t.Errorf("ActOn(%v, %v) = %v, %v", p, list, got, ok)
			}
		}
	}
}

// neighbors calls check with pairs of permutations of one degree: all of the
// small degrees, and some of each greater one.
func neighbors(check func(p []int, q []int)) {
	some := somePerms()
	for i, p := range some {
		for _, q := range some[max(0, i-24):min(i+24, len(some))] {
			if len(p) == len(q) {
				check(p, q)
			}
		}
	}
}

func TestColoringsGoAlongWithComposing(t *testing.T) {
	neighbors(func(p []int, q []int) {
		both, _ := impl.ComposePerm(p, q)
		for i, list := range someColorings(len(p)) {
			if i%5 != 0 && i > 20 {
				continue
			}
			once, _ := impl.ActOn(p, list)
			twice, ok := impl.ActOn(q, once)
			if want, alsoOk := impl.ActOn(both, list); !ok || !alsoOk || !slices.Equal(twice, want) {
				t.Errorf("%v is carried by %v and then %v to %v, by both to %v", list, p, q, twice, want)
			}
		}
	})
	for _, p := range somePerms() {
		inverse, _ := impl.InversePerm(p)
		for _, list := range someColorings(len(p)) {
			if got, ok := impl.ActOn(impl.IdentityPerm(len(p)), list); !ok || !slices.Equal(got, list) {
				t.Errorf("the identity carries %v to %v, %v", list, got, ok)
			}
			there, _ := impl.ActOn(p, list)
			if back, ok := impl.ActOn(inverse, there); !ok || !slices.Equal(back, list) {
				t.Errorf("%v is carried by %v there and back to %v, %v", list, p, back, ok)
			}
		}
	}
}

// wrongActors calls check with lists of which ActOn accepts no two together.
func wrongActors(check func(p []int, list []int)) {
	for a := range 13 {
		for b := range 13 {
			if a != b || a == 0 || a > 10 {
				check(upTo(a), make([]int, b))
			}
		}
	}
	for _, bad := range notPerms() {
		check(bad, make([]int, len(bad)))
		check(bad, make([]int, 1))
		check(bad, bad)
	}
	for _, bad := range notColorings() {
		check(upTo(len(bad)), bad)
		check(upTo(1), bad)
		check(upTo(10), bad)
		check(nil, bad)
	}
}

func TestActOnRejects(t *testing.T) {
	wrongActors(func(p []int, list []int) {
		if got, ok := impl.ActOn(p, list); ok || len(got) != 0 {
			t.Errorf("ActOn(%v, %v) = %v, %v", p, list, got, ok)
		}
		if impl.IsFixed(p, list) {
			t.Errorf("IsFixed(%v, %v) = true", p, list)
		}
	})
}

func TestIsFixed(t *testing.T) {
	cases := []struct {
		p, list []int
		want    bool
	}{
		{[]int{0}, []int{0}, true},
		{[]int{0}, []int{3}, true},
		{[]int{1, 0}, []int{0, 0}, true},
		{[]int{1, 0}, []int{3, 3}, true},
		{[]int{1, 0}, []int{0, 3}, false},
		{[]int{1, 0, 2}, []int{1, 1, 0}, true},
		{[]int{1, 0, 2}, []int{1, 0, 0}, false},
		{[]int{1, 2, 0}, []int{0, 1, 2}, false},
		{[]int{9, 0, 1, 2, 3, 4, 5, 6, 7, 8}, []int{2, 2, 2, 2, 2, 2, 2, 2, 2, 2}, true},
		{[]int{9, 0, 1, 2, 3, 4, 5, 6, 7, 8}, []int{2, 2, 2, 2, 2, 2, 2, 2, 2, 1}, false},
		{[]int{0, 1, 2, 3, 4, 5, 6, 7, 8, 9}, []int{0, 1, 2, 3, 0, 1, 2, 3, 0, 1}, true},
		{[]int{1, 0, 2, 3, 4, 5, 6, 7, 9, 8}, []int{0, 0, 2, 3, 0, 1, 2, 3, 1, 1}, true},
		{[]int{1, 0, 2, 3, 4, 5, 6, 7, 9, 8}, []int{0, 0, 2, 3, 0, 1, 2, 3, 1, 0}, false},
	}
	for _, c := range cases {
		if got := impl.IsFixed(c.p, c.list); got != c.want {
			t.Errorf("IsFixed(%v, %v) = %v", c.p, c.list, got)
		}
	}
}

// oneColorEach returns a coloring in which the cycles of p take turns with the
// colors.
func oneColorEach(p []int) []int {
	list := make([]int, len(p))
	for i, cycle := range impl.CyclesOf(p) {
		for _, x := range cycle {
			list[x] = (i + 3) % 4
		}
	}
	return list
}

func TestKeptColoringsHaveOneColorACycle(t *testing.T) {
	for _, p := range somePerms() {
		kept := oneColorEach(p)
		lists := append(someColorings(len(p)), kept)
		for i := range p {
			changed := slices.Clone(kept)
			changed[i] = (changed[i] + 1) % 4
			lists = append(lists, changed)
		}
		for _, list := range lists {
			want := true
			for _, cycle := range impl.CyclesOf(p) {
				for _, x := range cycle {
					want = want && list[x] == list[cycle[0]]
				}
			}
			if got := impl.IsFixed(p, list); got != want {
				t.Errorf("IsFixed(%v, %v) = %v", p, list, got)
			}
		}
		if !impl.IsFixed(p, kept) {
			t.Errorf("IsFixed(%v, %v) = false", p, kept)
		}
	}
}

func TestPairsOf(t *testing.T) {
	cases := map[int][][]int{
		2: {{0, 1}},
		3: {{0, 1}, {0, 2}, {1, 2}},
		4: {{0, 1}, {0, 2}, {0, 3}, {1, 2}, {1, 3}, {2, 3}},
		5: {{0, 1}, {0, 2}, {0, 3}, {0, 4}, {1, 2}, {1, 3}, {1, 4}, {2, 3}, {2, 4}, {3, 4}},
	}
	for n, want := range cases {
		if got := impl.PairsOf(n); !equalLists(got, want) {
			t.Errorf("PairsOf(%d) = %v, want %v", n, got, want)
		}
	}
	for _, n := range []int{1, 0, -1, -2, -5, 6, 7, 10, 11, 64, 1 << 32, 1<<32 + 2, math.MaxInt, math.MinInt, math.MinInt + 2} {
		if got := impl.PairsOf(n); len(got) != 0 {
			t.Errorf("PairsOf(%d) = %v", n, got)
		}
	}
}

func TestPairAction(t *testing.T) {
	cases := []struct{ p, want []int }{
		{[]int{0, 1}, []int{0}},
		{[]int{1, 0}, []int{0}},
		// The inverse would give 1,2,0.
		{[]int{1, 2, 0}, []int{2, 0, 1}},
		{[]int{1, 0, 2}, []int{0, 2, 1}},
		{[]int{1, 2, 3, 0}, []int{3, 4, 0, 5, 1, 2}},
		{[]int{3, 2, 1, 0}, []int{5, 4, 2, 3, 1, 0}},
		{[]int{0, 1, 2, 3, 4}, []int{0, 1, 2, 3, 4, 5, 6, 7, 8, 9}},
		{[]int{1, 2, 3, 4, 0}, []int{4, 5, 6, 0, 7, 8, 1, 9, 2, 3}},
		{[]int{0, 1, 2, 4, 3}, []int{0, 1, 3, 2, 4, 6, 5, 8, 7, 9}},
	}
	for _, c := range cases {
		if got, ok := impl.PairAction(c.p); !ok || !slices.Equal(got, c.want) {
			t.Errorf("PairAction(%v) = %v, %v, want %v", c.p, got, ok, c.want)
		}
	}
	for n := 2; n <= 5; n++ {
		for _, p := range permsOf(n) {
			if got, ok := impl.PairAction(p); !ok || !slices.Equal(got, onSubsets(p, 2)) {
				t.Errorf("PairAction(%v) = %v, %v, want %v", p, got, ok, onSubsets(p, 2))
			}
		}
	}
}

// notSmallPerms returns lists that are no permutation of a degree from 1 to 5.
func notSmallPerms() [][]int {
	lists := notPerms()
	for n := 6; n <= 10; n++ {
		lists = append(lists, upTo(n), cycling(n, upTo(n)), cycling(n, upTo(2)))
	}
	return lists
}

func TestPairActionRejects(t *testing.T) {
	for _, bad := range append(notSmallPerms(), []int{0}) {
		if got, ok := impl.PairAction(bad); ok || len(got) != 0 {
			t.Errorf("PairAction(%v) = %v, %v", bad, got, ok)
		}
	}
}

func TestSubsetsOf(t *testing.T) {
	cases := []struct {
		n, k int
		want [][]int
	}{
		{1, 0, [][]int{{}}},
		{1, 1, [][]int{{0}}},
		{2, 0, [][]int{{}}},
		{2, 1, [][]int{{0}, {1}}},
		{2, 2, [][]int{{0, 1}}},
		{3, 2, [][]int{{0, 1}, {0, 2}, {1, 2}}},
		{4, 3, [][]int{{0, 1, 2}, {0, 1, 3}, {0, 2, 3}, {1, 2, 3}}},
		{5, 0, [][]int{{}}},
		{5, 1, [][]int{{0}, {1}, {2}, {3}, {4}}},
		{5, 2, [][]int{{0, 1}, {0, 2}, {0, 3}, {0, 4}, {1, 2}, {1, 3}, {1, 4}, {2, 3}, {2, 4}, {3, 4}}},
		{5, 3, [][]int{{0, 1, 2}, {0, 1, 3}, {0, 1, 4}, {0, 2, 3}, {0, 2, 4}, {0, 3, 4}, {1, 2, 3}, {1, 2, 4}, {1, 3, 4}, {2, 3, 4}}},
		{5, 4, [][]int{{0, 1, 2, 3}, {0, 1, 2, 4}, {0, 1, 3, 4}, {0, 2, 3, 4}, {1, 2, 3, 4}}},
		{5, 5, [][]int{{0, 1, 2, 3, 4}}},
	}
	for n := 1; n <= 5; n++ {
		for k := range n + 1 {
			cases = append(cases, struct {
				n, k int
				want [][]int
			}{n, k, ascendingLists(n, k)})
		}
	}
	for _, c := range cases {
		if got := impl.SubsetsOf(c.n, c.k); !equalLists(got, c.want) {
			t.Errorf("SubsetsOf(%d, %d) = %v, want %v", c.n, c.k, got, c.want)
		}
	}
}

func TestSubsetsOfRejects(t *testing.T) {
	check := func(n int, k int) {
		if got := impl.SubsetsOf(n, k); len(got) != 0 {
			t.Errorf("SubsetsOf(%d, %d) = %v", n, k, got)
		}
	}
	far := []int{-1, -2, -64, 64, 1 << 32, 1<<32 + 1, math.MaxInt, math.MinInt, math.MinInt + 1}
	for n := 1; n <= 5; n++ {
		check(n, n+1)
		check(n, n+2)
		for _, k := range append(far, 6, 7, 10, 11) {
			check(n, k)
		}
	}
	for _, n := range append(far, 0, 6, 7, 10, 11, 16, 17) {
		for k := range 8 {
			check(n, k)
		}
		check(n, n)
		check(n, -1)
	}
}

func TestSubsetAction(t *testing.T) {
	cases := []struct {
		p    []int
		k    int
		want []int
	}{
		{[]int{0}, 0, []int{0}},
		{[]int{0}, 1, []int{0}},
		{[]int{1, 0}, 0, []int{0}},
		{[]int{1, 0}, 1, []int{1, 0}},
		{[]int{1, 0}, 2, []int{0}},
		{[]int{1, 2, 0}, 1, []int{1, 2, 0}},
		{[]int{1, 2, 0}, 2, []int{2, 0, 1}},
		{[]int{1, 2, 3, 0}, 3, []int{3, 0, 1, 2}},
		{[]int{1, 2, 3, 4, 0}, 0, []int{0}},
		{[]int{1, 2, 3, 4, 0}, 2, []int{4, 5, 6, 0, 7, 8, 1, 9, 2, 3}},
		{[]int{1, 2, 3, 4, 0}, 3, []int{6, 7, 0, 8, 1, 2, 9, 3, 4, 5}},
		{[]int{1, 2, 3, 4, 0}, 4, []int{4, 0, 1, 2, 3}},
		{[]int{1, 2, 3, 4, 0}, 5, []int{0}},
	}
	for _, c := range cases {
		if got, ok := impl.SubsetAction(c.p, c.k); !ok || !slices.Equal(got, c.want) {
			t.Errorf("SubsetAction(%v, %d) = %v, %v, want %v", c.p, c.k, got, ok, c.want)
		}
	}
	for n := 1; n <= 5; n++ {
		for _, p := range permsOf(n) {
			for k := range n + 1 {
				if got, ok := impl.SubsetAction(p, k); !ok || !slices.Equal(got, onSubsets(p, k)) {
					t.Errorf("SubsetAction(%v, %d) = %v, %v, want %v", p, k, got, ok, onSubsets(p, k))
				}
			}
		}
	}
}

func TestSubsetActionRejects(t *testing.T) {
	check := func(p []int, k int) {
		if got, ok := impl.SubsetAction(p, k); ok || len(got) != 0 {
			t.Errorf("SubsetAction(%v, %d) = %v, %v", p, k, got, ok)
		}
	}
	for n := 1; n <= 5; n++ {
		for _, k := range []int{-1, -2, -64, n + 1, n + 2, 6, 10, 64, 1 << 32, 1<<32 + 1, math.MaxInt, math.MinInt, math.MinInt + 1} {
			check(upTo(n), k)
			check(cycling(n, upTo(n)), k)
		}
	}
	for _, bad := range notSmallPerms() {
		for k := -1; k <= 7; k++ {
			check(bad, k)
		}
		check(bad, len(bad))
	}
}

// action is PairAction, or SubsetAction with some k.
type action struct {
	label string
	of    func(p []int) ([]int, bool)
	least int
}

func actions() []action {
	all := []action{{"PairAction", impl.PairAction, 2}}
	for k := range 6 {
		all = append(all, action{fmt.Sprint("SubsetAction of ", k), func(p []int) ([]int, bool) { return impl.SubsetAction(p, k) }, max(k, 1)})
	}
	return all
}

func TestActionsGoAlongWithComposing(t *testing.T) {
	for _, a := range actions() {
		for n := a.least; n <= 5; n++ {
			identity, ok := a.of(upTo(n))
			if !ok || !slices.Equal(identity, upTo(len(identity))) {
				t.Errorf("%s of the identity = %v, %v", a.label, identity, ok)
			}
		}
		neighbors(func(p []int, q []int) {
			if len(p) < a.least || len(p) > 5 {
				return
			}
			first, _ := a.of(p)
			second, _ := a.of(q)
			both, _ := impl.ComposePerm(p, q)
			want, ok := a.of(both)
			if got, alsoOk := impl.ComposePerm(first, second); !ok || !alsoOk || !slices.Equal(got, want) {
				t.Errorf("%s of %v and then %v is %v, of both %v", a.label, p, q, got, want)
			}
		})
	}
}

// pairGroupByDefinition returns the actions of all elements in ascending order.
func pairGroupByDefinition(g [][]int) [][]int {
	var all [][]int
	for _, p := range g {
		all = append(all, onSubsets(p, 2))
	}
	slices.SortFunc(all, slices.Compare)
	return all
}

func TestPairGroup(t *testing.T) {
	swap := [][]int{{0, 1, 2}, {1, 0, 2}}
	if got, ok := impl.PairGroup(swap); !ok || !equalLists(got, [][]int{{0, 1, 2}, {0, 2, 1}}) {
		t.Errorf("PairGroup(%v) = %v, %v", swap, got, ok)
	}
	// The actions are not in the order of their permutations here.
	turns := [][]int{{0, 1, 2}, {1, 2, 0}, {2, 0, 1}}
	if got, ok := impl.PairGroup(turns); !ok || !equalLists(got, [][]int{{0, 1, 2}, {1, 2, 0}, {2, 0, 1}}) {
		t.Errorf("PairGroup(%v) = %v, %v", turns, got, ok)
	}
	square := [][]int{{0, 1, 2, 3}, {1, 2, 3, 0}, {2, 3, 0, 1}, {3, 0, 1, 2}}
	if got, ok := impl.PairGroup(square); !ok || !equalLists(got, [][]int{{0, 1, 2, 3, 4, 5}, {2, 4, 5, 0, 1, 3}, {3, 4, 0, 5, 1, 2}, {5, 1, 3, 2, 4, 0}}) {
		t.Errorf("PairGroup(%v) = %v, %v", square, got, ok)
	}
	degrees := map[int]int{}
	for _, g := range someGroups(t) {
		n := len(g[0])
		if n < 3 || n > 5 {
			continue
		}
		degrees[n]++
		got, ok := impl.PairGroup(g)
		if !ok || !equalLists(got, pairGroupByDefinition(g)) {
			t.Errorf("PairGroup(%v) = %v, %v", g, got, ok)
		}
		if !impl.GroupOk(got) || len(got) != len(g) || len(got[0]) != n*(n-1)/2 {
			t.Errorf("PairGroup(%v) = %v is no group of the same order", g, got)
		}
	}
	if degrees[3] < 6 || degrees[4] < 30 || degrees[5] < 6 {
		t.Errorf("too few groups of the degrees: %v", degrees)
	}
}

func TestPairGroupOfAll(t *testing.T) {
	for n, order := range map[int]int{3: 6, 4: 24, 5: 120} {
		all := permsOf(n)
		slices.SortFunc(all, slices.Compare)
		got, ok := impl.PairGroup(all)
		if !ok || len(got) != order || !equalLists(got, pairGroupByDefinition(all)) || !isGroup(got) {
			t.Errorf("PairGroup of all of degree %d = %v, %v", n, got, ok)
		}
		if orbits := impl.OrbitsOf(got); len(orbits) != 1 || len(orbits[0]) != n*(n-1)/2 {
			t.Errorf("the pairs of %d points have the orbits %v", n, orbits)
		}
	}
}

func TestPairGroupRejects(t *testing.T) {
	check := func(g [][]int) {
		if got, ok := impl.PairGroup(g); ok || len(got) != 0 {
			t.Errorf("PairGroup of %d elements, %v = %v, %v", len(g), g, got, ok)
		}
	}
	degrees := map[int]bool{}
	for _, g := range someGroups(t) {
		if n := len(g[0]); n < 3 || n > 5 {
			degrees[n] = true
			check(g)
		}
	}
	if len(degrees) != 7 {
		t.Errorf("there are no groups of some degrees: %v", degrees)
	}
	for _, bad := range notGroups() {
		check(bad)
	}
	for n := 3; n <= 5; n++ {
		all := permsOf(n)
		slices.SortFunc(all, slices.Compare)
		check(all[1:])
		check(all[:len(all)-1])
		check(slices.Concat(all[1:2], all[:1], all[2:]))
		check(append(slices.Clone(all), all[len(all)-1]))
		check(append([][]int{upTo(n - 1)}, all...))
		check(append(slices.Clone(all), upTo(n+1)))
	}
}

func TestActionArgumentsAreLeft(t *testing.T) {
	perms := append(somePerms(), notPerms()...)
	for i, l := range slices.Concat(perms, notColorings()) {
		p, storeP := withSpare(l)
		colors := make([]int, len(l))
		for j := range colors {
			colors[j] = (i + j*j) % 4
		}
		list, storeList := withSpare(colors)
		beforeP, beforeList := slices.Clone(storeP), slices.Clone(storeList)
		impl.ColoringOk(p)
		impl.ColoringOk(list)
		impl.ActOn(p, list)
		impl.ActOn(p, p)
		impl.IsFixed(p, list)
		impl.IsFixed(p, p)
		impl.PairAction(p)
		for k := -1; k <= 6; k++ {
			impl.SubsetAction(p, k)
		}
		if !slices.Equal(storeP, beforeP) || !slices.Equal(storeList, beforeList) {
			t.Errorf("an argument %v or %v, or what is behind it, is changed: %v, %v", l, colors, storeP, storeList)
		}
	}
	for _, lists := range append(someGroups(t), notGroups()...) {
		if len(lists) > 200 {
			continue
		}
		g, stored := spareLists(lists)
		before := stored()
		impl.PairGroup(g)
		if stored() != before {
			t.Errorf("an argument %v, or what is behind it, is changed: %s", lists, stored())
		}
	}
}

// actionResults returns all results for g and a coloring that are lists, each of
// one call.
func actionResults(g [][]int, list []int) [][][]int {
	n := len(list)
	pairs, _ := impl.PairGroup(g)
	all := [][][]int{impl.PairsOf(n), pairs}
	for k := range n + 1 {
		all = append(all, impl.SubsetsOf(n, k))
	}
	for _, p := range g[:min(len(g), 12)] {
		moved, _ := impl.ActOn(p, list)
		action, _ := impl.PairAction(p)
		all = append(all, [][]int{moved}, [][]int{action})
		for k := range n + 1 {
			action, _ = impl.SubsetAction(p, k)
			all = append(all, [][]int{action})
		}
	}
	return all
}

// checkResultsAreNew overwrites each list of each result for g and a coloring,
// in both orders, and then each result itself: neither an argument, nor another
// list of the result, nor another result, nor a later one may show it.
func checkResultsAreNew(t *testing.T, g [][]int, list []int, resultsOf func(g [][]int, list []int) [][][]int) {
	t.Helper()
	argument, coloring := cloneLists(g), slices.Clone(list)
	results := resultsOf(argument, coloring)
	want := resultsOf(cloneLists(g), slices.Clone(list))
	all := slices.Concat(results...)
	forward := overwrite(all)
	slices.Reverse(all)
	if !forward || !overwrite(all) {
		t.Fatalf("two lists of the results for %v and %v share memory", g, list)
	}
	for _, lists := range results {
		clear(lists[:cap(lists)])
	}
	if !equalLists(argument, g) || !slices.Equal(coloring, list) {
		t.Fatalf("a result for %v and %v shares memory with it", g, list)
	}
	if !slices.EqualFunc(resultsOf(argument, coloring), want, equalLists) {
		t.Fatalf("the results for %v and %v are others after the first ones were changed", g, list)
	}
}

func TestActionResultsAreNew(t *testing.T) {
	for _, g := range someGroups(t) {
		checkResultsAreNew(t, g, oneColorEach(g[len(g)-1]), actionResults)
	}
}
