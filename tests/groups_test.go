package tests

import (
	"fmt"
	"math"
	"slices"
	"testing"

	"loop.example/g01041/impl"
)

// keyOf tells lists of small numbers from one another.
func keyOf(l []int) string {
	var key []byte
	for _, x := range l {
		key = append(key, byte(x))
	}
	return string(key)
}

// closure returns the least group with these generators in ascending order,
// found without impl; it gives up, with false, at more than limit elements.
func closure(n int, generators [][]int, limit int) ([][]int, bool) {
	all := [][]int{upTo(n)}
	met := map[string]bool{keyOf(all[0]): true}
	for i := 0; i < len(all); i++ {
		for _, q := range generators {
			r := composed(all[i], q)
			if met[keyOf(r)] {
				continue
			}
			met[keyOf(r)] = true
			all = append(all, r)
			if len(all) > limit {
				return nil, false
			}
		}
	}
	slices.SortFunc(all, slices.Compare)
	return all, true
}

// inverted carries back.
func inverted(p []int) []int {
	r := make([]int, len(p))
	for i, x := range p {
		r[x] = i
	}
	return r
}

// cycling returns the permutation of degree n with these cycles.
func cycling(n int, cycles ...[]int) []int {
	p := upTo(n)
	for _, c := range cycles {
		for i, x := range c {
			p[x] = c[(i+1)%len(c)]
		}
	}
	return p
}

type groupCase struct {
	label      string
	degree     int
	generators [][]int
	order      int
	classes    int
	orbits     [][]int
}

// groupCases returns groups of which the order and the classes are known.
func groupCases() []groupCase {
	five := cycling(5, upTo(5))
	cases := []groupCase{
		{"one swap of four", 4, [][]int{{1, 0, 2, 3}}, 2, 2, [][]int{{0, 1}, {2}, {3}}},
		{"crossed swaps", 4, [][]int{{2, 3, 0, 1}}, 2, 2, [][]int{{0, 2}, {1, 3}}},
		{"four, each with itself", 4, [][]int{{1, 0, 3, 2}, {2, 3, 0, 1}}, 4, 4, [][]int{upTo(4)}},
		{"two independent swaps", 5, [][]int{{3, 1, 2, 0, 4}, {0, 4, 2, 3, 1}}, 4, 4, [][]int{{0, 3}, {1, 4}, {2}}},
		{"even ones of four", 4, [][]int{{1, 2, 0, 3}, {0, 2, 3, 1}}, 12, 4, [][]int{upTo(4)}},
		{"all of three", 3, [][]int{{1, 0, 2}, {0, 2, 1}}, 6, 3, [][]int{upTo(3)}},
		{"all of three of the last points", 5, [][]int{{0, 1, 3, 2, 4}, {0, 1, 2, 4, 3}}, 6, 3, [][]int{{0}, {1}, {2, 3, 4}}},
		{"all of four", 4, [][]int{{1, 2, 3, 0}, {1, 0, 2, 3}}, 24, 5, [][]int{upTo(4)}},
		{"even ones of five", 5, [][]int{five, {1, 2, 0, 3, 4}}, 60, 5, [][]int{upTo(5)}},
		{"lines modulo five", 5, [][]int{five, {0, 2, 4, 1, 3}}, 20, 5, [][]int{upTo(5)}},
		{"six by two and three", 5, [][]int{{1, 0, 3, 4, 2}}, 6, 6, [][]int{{0, 1}, {2, 3, 4}}},
		{"the units of the quaternions", 8, [][]int{cycling(8, []int{0, 1, 2, 3}, []int{4, 5, 6, 7}), cycling(8, []int{0, 4, 2, 6}, []int{1, 7, 3, 5})}, 8, 5, [][]int{upTo(8)}},
		{"thirty by two, three and five", 10, [][]int{{1, 0, 3, 4, 2, 6, 7, 8, 9, 5}}, 30, 30, [][]int{{0, 1}, {2, 3, 4}, {5, 6, 7, 8, 9}}},
		{"five swaps", 10, [][]int{cycling(10, []int{0, 1}), cycling(10, []int{2, 3}), cycling(10, []int{4, 5}), cycling(10, []int{6, 7}), cycling(10, []int{8, 9})},
			32, 32, [][]int{{0, 1}, {2, 3}, {4, 5}, {6, 7}, {8, 9}}},
		{"all of five", 5, [][]int{five, {1, 0, 2, 3, 4}}, 120, 7, [][]int{upTo(5)}},
		{"all of five, on pairs", 10, [][]int{onSubsets(five, 2), onSubsets([]int{1, 0, 2, 3, 4}, 2)}, 120, 7, [][]int{upTo(10)}},
		{"all of five, on the last points of ten", 10, [][]int{cycling(10, []int{5, 6, 7, 8, 9}), cycling(10, []int{5, 6})}, 120, 7,
			[][]int{{0}, {1}, {2}, {3}, {4}, {5, 6, 7, 8, 9}}},
		{"the line modulo five with its far point", 6, [][]int{cycling(6, upTo(5)), cycling(6, []int{1, 2, 4, 3}), cycling(6, []int{0, 5}, []int{1, 4})}, 120, 7, [][]int{upTo(6)}},
		{"even ones of five, and a swap", 7, [][]int{cycling(7, upTo(5)), cycling(7, upTo(3)), cycling(7, []int{5, 6})}, 120, 10, [][]int{upTo(5), {5, 6}}},
		{"lines modulo five, and all of three", 8, [][]int{cycling(8, upTo(5)), cycling(8, []int{1, 2, 4, 3}), cycling(8, []int{5, 6, 7}), cycling(8, []int{6, 7})},
			120, 15, [][]int{upTo(5), {5, 6, 7}}},
		{"all of four, and five", 9, [][]int{cycling(9, upTo(4)), cycling(9, upTo(2)), cycling(9, []int{4, 5, 6, 7, 8})}, 120, 25, [][]int{upTo(4), {4, 5, 6, 7, 8}}},
	}
	for n := 1; n <= 10; n++ {
		var single [][]int
		for i := range n {
			single = append(single, []int{i})
		}
		cases = append(cases,
			groupCase{"the identity", n, nil, 1, 1, single},
			groupCase{"rotations", n, [][]int{cycling(n, upTo(n))}, n, n, [][]int{upTo(n)}})
		if n > 2 {
			classes := []int{n/2 + 3, n/2 + 2}[n%2]
			turned := upTo(n)
			slices.Reverse(turned)
			cases = append(cases, groupCase{"rotations and reflections", n, [][]int{cycling(n, upTo(n)), turned}, 2 * n, classes, [][]int{upTo(n)}})
		}
	}
	return cases
}

// elements returns the elements of a case, found without impl.
func (c groupCase) elements(t *testing.T) [][]int {
	t.Helper()
	g, ok := closure(c.degree, c.generators, c.order)
	if !ok || len(g) != c.order {
		t.Fatalf("%s of degree %d: the order is not %d", c.label, c.degree, c.order)
	}
	return g
}

// smallGroups returns all groups of degree n that have two generators; up to
// degree 4 these are all groups of this degree.
func smallGroups(n int) [][][]int {
	var groups [][][]int
	met := map[string]bool{}
	perms := permsOf(n)
	for i, p := range perms {
		for _, q := range perms[i:] {
			g, _ := closure(n, [][]int{p, q}, 120)
			if key := keyOf(slices.Concat(g...)); !met[key] {
				met[key] = true
				groups = append(groups, g)
			}
		}
	}
	return groups
}

// someGroups returns the groups of groupCases and all those of small degrees.
func someGroups(t *testing.T) [][][]int {
	var groups [][][]int
	for _, c := range groupCases() {
		groups = append(groups, c.elements(t))
	}
	for n := 1; n <= 4; n++ {
		groups = append(groups, smallGroups(n)...)
	}
	return groups
}

// largeGroup is a group with more than MaxOrder elements.
type largeGroup struct {
	degree     int
	generators [][]int
	order      int
}

func largeGroups() []largeGroup {
	return []largeGroup{
		// There is none of degree 10 or less with 121 to 125 elements.
		{10, [][]int{cycling(10, upTo(7)), cycling(10, []int{1, 3, 2, 6, 4, 5}), cycling(10, []int{7, 8, 9})}, 126},
		{10, [][]int{cycling(10, upTo(4)), cycling(10, []int{0, 2}), cycling(10, []int{4, 5, 6, 7}), cycling(10, []int{4, 6}), cycling(10, []int{8, 9})}, 128},
		{7, [][]int{cycling(7, upTo(4)), cycling(7, upTo(2)), cycling(7, []int{4, 5, 6}), cycling(7, []int{4, 5})}, 144},
		{7, [][]int{cycling(7, upTo(5)), cycling(7, upTo(2)), cycling(7, []int{5, 6})}, 240},
		{6, [][]int{cycling(6, upTo(5)), cycling(6, []int{3, 4, 5})}, 360},
		{6, [][]int{cycling(6, upTo(6)), cycling(6, upTo(2))}, 720},
		{7, [][]int{cycling(7, upTo(7)), cycling(7, upTo(2))}, 5040},
		{10, [][]int{cycling(10, upTo(10)), cycling(10, upTo(2))}, 3628800},
	}
}

func equalLists(a [][]int, b [][]int) bool {
	return slices.EqualFunc(a, b, slices.Equal)
}

func cloneLists(lists [][]int) [][]int {
	var clone [][]int
	for _, l := range lists {
		clone = append(clone, slices.Clone(l))
	}
	return clone
}

// isGroup is the definition of GroupOk, word for word.
func isGroup(g [][]int) bool {
	if len(g) < 1 || len(g) > 120 {
		return false
	}
	met := map[string]bool{}
	for i, p := range g {
		if len(p) < 1 || len(p) > 10 || len(p) != len(g[0]) || !holdsEachOnce(p) {
			return false
		}
		if i > 0 && slices.Compare(g[i-1], p) >= 0 {
			return false
		}
		met[keyOf(p)] = true
	}
	for _, p := range g {
		for _, q := range g {
			if !met[keyOf(composed(p, q))] {
				return false
			}
		}
	}
	return true
}

// notGroups returns lists that are no group.
func notGroups() [][][]int {
	lists := [][][]int{
		nil, {}, {nil}, {{}}, {nil, nil}, {{}, {0}}, {{0}, {}}, {nil, {0, 1}, {1, 0}},
		// Twice, or out of order.
		{{0}, {0}}, {{0, 1}, {0, 1}}, {{1, 0}, {0, 1}}, {{0, 1}, {1, 0}, {0, 1}}, {{0, 1}, {1, 0}, {1, 0}},
		{{0, 1, 2}, {2, 0, 1}, {1, 2, 0}}, {{1, 2, 0}, {2, 0, 1}, {0, 1, 2}},
		// Of different degrees.
		{{0}, {0, 1}}, {{0, 1}, {0, 1, 2}}, {{0, 1}, {0}}, {{0}, {1, 0}}, {{0}, {0, 1}, {1, 0}},
		{{0, 1}, {0, 1, 2}, {1, 0}}, {{0, 1, 2}, {1, 0}}, {{0, 1, 2}, {1, 0, 2}, {2, 1}}, {{0, 1}, {1, 0}, {1, 0, 2}},
		// Not all permutations.
		{{0, 1}, {1, 1}}, {{0, 0}, {0, 1}}, {{0, 1}, {1, 2}}, {{-1, 0}, {0, 1}}, {{0, 1}, {1, 0}, {1, math.MaxInt}}, {{math.MinInt, 1}, {0, 1}, {1, 0}},
		{upTo(11)}, {upTo(11), {0, 1, 2, 3, 4, 5, 6, 7, 8, 10, 9}}, {{1, 2}, {2, 1}},
		// Not closed: without the identity, a product of two, or that of one with itself.
		{{1, 0}}, {{1, 2, 0}, {2, 0, 1}}, {{0, 1, 2}, {1, 2, 0}}, {{0, 1, 2}, {2, 0, 1}}, {{0, 1, 2}, {0, 2, 1}, {1, 0, 2}},
		{{0, 1, 2, 3}, {0, 1, 3, 2}, {1, 0, 2, 3}}, {{0, 1, 2, 3}, {0, 1, 3, 2}, {1, 0, 3, 2}}, {{0, 1, 2, 3}, {1, 2, 3, 0}, {3, 0, 1, 2}},
	}
	for _, l := range notPerms() {
		lists = append(lists, [][]int{l})
	}
	for _, x := range largeGroups()[:5] {
		g, _ := closure(x.degree, x.generators, x.order)
		lists = append(lists, g)
	}
	all := permsOf(5)
	slices.SortFunc(all, slices.Compare)
	return append(lists, slices.Concat(all, all[:1]), slices.Concat(all, all), slices.Concat(all[:119], all[118:]), slices.Repeat(all[:1], 100000))
}

func TestGroupOk(t *testing.T) {
	if impl.MaxOrder != 120 {
		t.Errorf("MaxOrder = %d", impl.MaxOrder)
	}
	for _, g := range someGroups(t) {
		if !impl.GroupOk(g) {
			t.Errorf("GroupOk(%v) = false", g)
		}
	}
	for _, bad := range notGroups() {
		if impl.GroupOk(bad) {
			t.Errorf("GroupOk of %d elements, %v = true", len(bad), bad)
		}
	}
}

func TestGroupOkOfLargeGroups(t *testing.T) {
	for _, x := range largeGroups()[:6] {
		g, ok := closure(x.degree, x.generators, x.order)
		if !ok || len(g) != x.order {
			t.Fatalf("the order of %v is not %d", x.generators, x.order)
		}
		if impl.GroupOk(g) {
			t.Errorf("GroupOk of %d elements = true", len(g))
		}
	}
}

// TestGroupOkOfAllSublists counts the subgroups of some groups, which are known.
func TestGroupOkOfAllSublists(t *testing.T) {
	subgroups := map[string]int{"one swap of four": 2, "four, each with itself": 5, "even ones of four": 10, "all of three": 6, "six by two and three": 4, "the units of the quaternions": 6}
	for _, c := range groupCases() {
		want, ok := subgroups[c.label]
		if !ok {
			continue
		}
		g, count := c.elements(t), 0
		for chosen := range 1 << len(g) {
			var some [][]int
			for i, p := range g {
				if chosen>>i&1 == 1 {
					some = append(some, p)
				}
			}
			got := impl.GroupOk(some)
			if got != isGroup(some) {
				t.Errorf("GroupOk(%v) = %v", some, got)
			}
			if got {
				count++
			}
		}
		if count != want {
			t.Errorf("%s: %d groups, want %d", c.label, count, want)
		}
	}
}

func TestGroupOkOfChangedGroups(t *testing.T) {
	for _, g := range someGroups(t) {
		check := func(changed [][]int) {
			if got, want := impl.GroupOk(changed), isGroup(changed); got != want {
				t.Errorf("GroupOk(%v) = %v", changed, got)
			}
		}
		for i, p := range g {
			check(slices.Delete(slices.Clone(g), i, i+1))
			check(slices.Insert(slices.Clone(g), i, p))
			swapped := slices.Clone(g)
			swapped[i], swapped[0] = swapped[0], swapped[i]
			check(swapped)
			for _, other := range [][]int{nil, p[1:], append(slices.Clone(p), len(p)), p[:len(p)-1], slices.Repeat([]int{p[0]}, len(p))} {
				changed := slices.Clone(g)
				changed[i] = other
				check(changed)
			}
		}
		for _, extra := range permsOf(min(len(g[0]), 4)) {
			longer := append(slices.Clone(g), extra)
			check(longer)
			slices.SortFunc(longer, slices.Compare)
			check(longer)
		}
	}
}

func TestGroupOf(t *testing.T) {
	for _, c := range groupCases() {
		want := c.elements(t)
		check := func(generators [][]int) {
			t.Helper()
			got, ok := impl.GroupOf(c.degree, generators)
			if !ok || !equalLists(got, want) {
				t.Errorf("GroupOf(%d, %v) = %v, %v, want %s", c.degree, generators, got, ok, c.label)
			}
		}
		check(c.generators)
		check(want)
		turned := slices.Clone(c.generators)
		slices.Reverse(turned)
		check(turned)
		check(append(turned, c.generators...))
		check(append([][]int{upTo(c.degree)}, c.generators...))
		check(slices.Repeat(append(turned, upTo(c.degree)), 500))
		if got, _ := impl.GroupOf(c.degree, c.generators); !impl.GroupOk(got) {
			t.Errorf("GroupOk(%v) = false", got)
		}
	}
}

// checkGroupOf holds GroupOf against the closure.
func checkGroupOf(t *testing.T, n int, generators ...[]int) {
	t.Helper()
	got, ok := impl.GroupOf(n, generators)
	want, wantOk := closure(n, generators, 120)
	if ok != wantOk || !equalLists(got, want) {
		t.Errorf("GroupOf(%d, %v) = %v, %v, want %v, %v", n, generators, got, ok, want, wantOk)
	}
	if !ok {
		return
	}
	for _, p := range generators {
		if !impl.HasPerm(got, p) {
			t.Errorf("GroupOf(%d, %v) = %v has not %v", n, generators, got, p)
		}
	}
}

func TestGroupOfSomePerms(t *testing.T) {
	for n := 1; n <= 4; n++ {
		for _, p := range permsOf(n) {
			for _, q := range permsOf(n) {
				checkGroupOf(t, n, p, q)
			}
		}
	}
	some := somePerms()
	for i, p := range some {
		checkGroupOf(t, len(p), p)
		if q := some[max(i-1, 0)]; len(q) == len(p) {
			checkGroupOf(t, len(p), q, p)
		}
		if q := some[max(i-50, 0)]; len(q) == len(p) {
			checkGroupOf(t, len(p), composed(p, q), composed(q, p))
		}
	}
}

func TestGroupOfRejects(t *testing.T) {
	check := func(n int, generators ...[]int) {
		t.Helper()
		if got, ok := impl.GroupOf(n, generators); ok || len(got) != 0 {
			t.Errorf("GroupOf(%d, %v) = %v, %v", n, generators, got, ok)
		}
	}
	for _, n := range []int{0, -1, -10, 11, 12, 1 << 32, 1<<32 + 1, math.MaxInt, math.MinInt} {
		check(n)
		check(n, nil)
		check(n, []int{0})
		check(n, upTo(10))
		check(n, upTo(11))
	}
	for n := 1; n <= 10; n++ {
		for other := range 13 {
			if other != n {
				check(n, upTo(other))
				check(n, upTo(n), upTo(other))
				check(n, upTo(other), upTo(n))
				check(n, upTo(n), upTo(other), upTo(n))
			}
		}
	}
	for _, bad := range notPerms() {
		n := min(len(bad), 11)
		check(n, bad)
		check(n, bad, bad)
		check(n, upTo(n), bad)
		check(n, bad, upTo(n))
	}
	for _, x := range largeGroups() {
		check(x.degree, x.generators...)
		check(x.degree, slices.Repeat(x.generators, 3)...)
	}
	check(6, permsOf(6)...)
	check(8, permsOf(8)...)
}

func TestHasPerm(t *testing.T) {
	for _, g := range someGroups(t) {
		n := len(g[0])
		met := map[string]bool{}
		for _, p := range g {
			met[keyOf(p)] = true
		}
		perms := slices.Concat(g, permsOf(min(n, 4)), [][]int{upTo(n), upTo(n - 1), upTo(n + 1), cycling(n, upTo(n)), cycling(n, upTo(n-1))})
		for _, p := range perms {
			if got := impl.HasPerm(g, p); got != met[keyOf(p)] {
				t.Errorf("HasPerm(%v, %v) = %v", g, p, got)
			}
		}
	}
	identity := [][]int{upTo(2)}
	for _, bad := range notPerms() {
		if impl.HasPerm(identity, bad) || impl.HasPerm([][]int{bad}, bad) || impl.HasPerm([][]int{upTo(len(bad))}, bad) {
			t.Errorf("HasPerm with %v = true", bad)
		}
	}
	for _, bad := range notGroups() {
		for _, p := range append([][]int{nil, {0}, {0, 1}, {1, 0}, {0, 1, 2}}, bad[:min(len(bad), 150)]...) {
			if impl.HasPerm(bad, p) {
				t.Errorf("HasPerm(%v, %v) = true", bad, p)
			}
		}
	}
}

func TestOrbitsOf(t *testing.T) {
	for _, c := range groupCases() {
		if got := impl.OrbitsOf(c.elements(t)); !equalLists(got, c.orbits) {
			t.Errorf("OrbitsOf for %s of degree %d = %v, want %v", c.label, c.degree, got, c.orbits)
		}
	}
	for _, g := range someGroups(t) {
		var want [][]int
		for point := range g[0] {
			var orbit []int
			for _, p := range g {
				orbit = append(orbit, p[point])
			}
			slices.Sort(orbit)
			orbit = slices.Compact(orbit)
			if orbit[0] == point {
				want = append(want, orbit)
			}
		}
		if got := impl.OrbitsOf(g); !equalLists(got, want) {
			t.Errorf("OrbitsOf(%v) = %v, want %v", g, got, want)
		}
	}
	for _, bad := range notGroups() {
		if got := impl.OrbitsOf(bad); len(got) != 0 {
			t.Errorf("OrbitsOf(%v) = %v", bad, got)
		}
	}
}

func TestStabilizerOf(t *testing.T) {
	for _, g := range someGroups(t) {
		for _, orbit := range impl.OrbitsOf(g) {
			for _, point := range orbit {
				var want [][]int
				for _, p := range g {
					if p[point] == point {
						want = append(want, p)
					}
				}
				got := impl.StabilizerOf(g, point)
				if !equalLists(got, want) || !impl.GroupOk(got) {
					t.Errorf("StabilizerOf(%v, %d) = %v, want %v", g, point, got, want)
				}
				if len(got)*len(orbit) != len(g) {
					t.Errorf("%d elements keep %d, of %d that carry it to %d points", len(got), point, len(g), len(orbit))
				}
			}
		}
	}
}

func TestStabilizerOfRejects(t *testing.T) {
	for _, g := range someGroups(t) {
		n := len(g[0])
		for _, point := range []int{-1, -2, -n, n, n + 1, 9 + n, 10, 11, 1 << 32, -1 << 32, math.MaxInt, math.MinInt} {
			if got := impl.StabilizerOf(g, point); len(got) != 0 {
				t.Errorf("StabilizerOf of degree %d and the point %d = %v", n, point, got)
			}
		}
	}
	for _, bad := range notGroups() {
		for _, point := range []int{-1, 0, 1, 2, 9, 10, 11} {
			if got := impl.StabilizerOf(bad, point); len(got) != 0 {
				t.Errorf("StabilizerOf(%v, %d) = %v", bad, point, got)
			}
		}
	}
}

// classesByDefinition numbers the classes as the document says.
func classesByDefinition(g [][]int) []int {
	numbers := map[string]int{}
	var list []int
	count := 0
	for _, p := range g {
		if _, ok := numbers[keyOf(p)]; !ok {
			for _, x := range g {
				numbers[keyOf(composed(composed(x, p), inverted(x)))] = count
			}
			count++
		}
		list = append(list, numbers[keyOf(p)])
	}
	return list
}

func TestClassesOf(t *testing.T) {
	for _, c := range groupCases() {
		got := impl.ClassesOf(c.elements(t))
		if len(got) != c.order || slices.Max(got)+1 != c.classes {
			t.Errorf("ClassesOf for %s of degree %d = %v, want %d classes", c.label, c.degree, got, c.classes)
		}
	}
	for _, g := range someGroups(t) {
		if got, want := impl.ClassesOf(g), classesByDefinition(g); !slices.Equal(got, want) {
			t.Errorf("ClassesOf(%v) = %v, want %v", g, got, want)
		}
	}
	known := []struct {
		generators [][]int
		want       []int
	}{
		{[][]int{{1, 0, 2}, {1, 2, 0}}, []int{0, 1, 1, 2, 2, 1}},
		{[][]int{{1, 2, 0}}, []int{0, 1, 2}},
		{[][]int{{1, 2, 3, 0}, {3, 2, 1, 0}}, []int{0, 1, 2, 3, 1, 4, 3, 2}},
	}
	for _, c := range known {
		g, _ := impl.GroupOf(len(c.generators[0]), c.generators)
		if got := impl.ClassesOf(g); !slices.Equal(got, c.want) {
			t.Errorf("ClassesOf(%v) = %v, want %v", g, got, c.want)
		}
	}
	for _, bad := range notGroups() {
		if got := impl.ClassesOf(bad); len(got) != 0 {
			t.Errorf("ClassesOf(%v) = %v", bad, got)
		}
	}
}

func TestClassesAndAbelianGroups(t *testing.T) {
	for _, g := range someGroups(t) {
		classes := impl.ClassesOf(g)
		types := map[int][]int{}
		for i, class := range classes {
			cycleType := impl.CycleType(g[i])
			if first, ok := types[class]; ok && !slices.Equal(first, cycleType) {
				t.Errorf("the class %d of %v has the cycle types %v and %v", class, g, first, cycleType)
			}
			types[class] = cycleType
		}
		commute := true
		for _, p := range g {
			for _, q := range g {
				commute = commute && slices.Equal(composed(p, q), composed(q, p))
			}
		}
		if got := impl.IsAbelian(g); got != commute {
			t.Errorf("IsAbelian(%v) = %v", g, got)
		}
		if alone := slices.Equal(classes, upTo(len(g))); alone != commute {
			t.Errorf("ClassesOf(%v) = %v, while IsAbelian is %v", g, classes, commute)
		}
	}
	for _, bad := range notGroups() {
		if impl.IsAbelian(bad) {
			t.Errorf("IsAbelian(%v) = true", bad)
		}
	}
}

func TestNamedGroups(t *testing.T) {
	factorial := 1
	for n := 1; n <= 10; n++ {
		factorial *= n
		turned := upTo(n)
		slices.Reverse(turned)
		rotations, _ := closure(n, [][]int{cycling(n, upTo(n))}, 120)
		both, _ := closure(n, [][]int{cycling(n, upTo(n)), turned}, 120)
		if got, ok := impl.CyclicGroup(n); !ok || len(got) != n || !equalLists(got, rotations) {
			t.Errorf("CyclicGroup(%d) = %v, %v", n, got, ok)
		}
		order := 2 * n
		if n <= 2 {
			order = n
		}
		if got, ok := impl.DihedralGroup(n); !ok || len(got) != order || !equalLists(got, both) {
			t.Errorf("DihedralGroup(%d) = %v, %v", n, got, ok)
		}
		if n > 5 {
			continue
		}
		all := permsOf(n)
		slices.SortFunc(all, slices.Compare)
		if got, ok := impl.SymmetricGroup(n); !ok || len(got) != factorial || !equalLists(got, all) {
			t.Errorf("SymmetricGroup(%d) = %v, %v", n, got, ok)
		}
	}
	g, ok := impl.CyclicGroup(4)
	if want := [][]int{{0, 1, 2, 3}, {1, 2, 3, 0}, {2, 3, 0, 1}, {3, 0, 1, 2}}; !ok || !equalLists(g, want) {
		t.Errorf("CyclicGroup(4) = %v, %v, want %v", g, ok, want)
	}
	g, ok = impl.DihedralGroup(3)
	if want := [][]int{{0, 1, 2}, {0, 2, 1}, {1, 0, 2}, {1, 2, 0}, {2, 0, 1}, {2, 1, 0}}; !ok || !equalLists(g, want) {
		t.Errorf("DihedralGroup(3) = %v, %v, want %v", g, ok, want)
	}
}

func TestNamedGroupsReject(t *testing.T) {
	named := map[string]func(int) ([][]int, bool){
		"CyclicGroup": impl.CyclicGroup, "DihedralGroup": impl.DihedralGroup, "SymmetricGroup": impl.SymmetricGroup,
	}
	for name, group := range named {
		degrees := []int{0, -1, -5, -10, 11, 12, 20, 1 << 32, 1<<32 + 1, math.MaxInt, math.MinInt, math.MinInt + 1}
		if name == "SymmetricGroup" {
			degrees = append(degrees, 6, 7, 8, 9, 10)
		}
		for _, n := range degrees {
			if got, ok := group(n); ok || len(got) != 0 {
				t.Errorf("%s(%d) = %v, %v", name, n, got, ok)
			}
		}
	}
}

// spareLists returns lists as the beginning of a longer list, each of its
// elements likewise, and a text of all that is stored.
func spareLists(lists [][]int) ([][]int, func() string) {
	var store [][]int
	var stores [][]int
	for _, l := range lists {
		head, whole := withSpare(l)
		store = append(store, head)
		stores = append(stores, whole)
	}
	store = append(store, []int{77}, []int{78}, nil, []int{79})
	return store[:len(lists)], func() string { return fmt.Sprint(stores, store, len(store)) }
}

func TestGroupArgumentsAreLeft(t *testing.T) {
	for _, lists := range append(someGroups(t), notGroups()...) {
		if len(lists) > 200 {
			continue
		}
		g, stored := spareLists(lists)
		p := upTo(4)
		if len(g) > 0 {
			p = g[len(g)-1]
		}
		before := stored()
		impl.GroupOk(g)
		impl.GroupOf(len(p), g)
		impl.HasPerm(g, p)
		impl.OrbitsOf(g)
		impl.StabilizerOf(g, 0)
		impl.ClassesOf(g)
		impl.IsAbelian(g)
		if stored() != before {
			t.Errorf("an argument %v, or what is behind it, is changed: %s", lists, stored())
		}
	}
}

// groupResults returns all results for g that are lists of lists, each of one call.
func groupResults(g [][]int) [][][]int {
	n := len(g[0])
	all := [][][]int{impl.OrbitsOf(g), {impl.ClassesOf(g)}}
	for _, group := range []func(int) ([][]int, bool){impl.CyclicGroup, impl.DihedralGroup, impl.SymmetricGroup} {
		result, _ := group(n)
		all = append(all, result)
	}
	whole, _ := impl.GroupOf(n, g)
	first, _ := impl.GroupOf(n, g[:1])
	last, _ := impl.GroupOf(n, g[len(g)-1:])
	all = append(all, whole, first, last)
	for point := range n {
		all = append(all, impl.StabilizerOf(g, point))
	}
	return all
}

// overwrite marks each list up to its capacity, one after the other, and
// reports whether in the end each has its own mark.
func overwrite(lists [][]int) bool {
	for i, l := range lists {
		whole := l[:cap(l)]
		for j := range whole {
			whole[j] = -100 - i
		}
	}
	for i, l := range lists {
		for _, x := range l {
			if x != -100-i {
				return false
			}
		}
	}
	return true
}

// TestGroupResultsAreNew overwrites each list of each result, in both orders,
// and then each result itself: neither an argument, nor another list of the
// result, nor another result, nor a later one may show it.
func TestGroupResultsAreNew(t *testing.T) {
	for _, g := range someGroups(t) {
		argument := cloneLists(g)
		results := groupResults(argument)
		want := groupResults(cloneLists(g))
		all := slices.Concat(results...)
		forward := overwrite(all)
		slices.Reverse(all)
		if !forward || !overwrite(all) {
			t.Fatalf("two lists of the results for %v share memory", g)
		}
		for _, lists := range results {
			clear(lists[:cap(lists)])
		}
		if !equalLists(argument, g) {
			t.Fatalf("a result for %v shares memory with it", g)
		}
		if !slices.EqualFunc(groupResults(argument), want, equalLists) {
			t.Fatalf("the results for %v are others after the first ones were changed", g)
		}
	}
}

// TestGroupResultsAreAlwaysEqual repeats calls, as a map is ranged over in
// another order each time.
func TestGroupResultsAreAlwaysEqual(t *testing.T) {
	for _, c := range groupCases() {
		g := c.elements(t)
		for range 20 {
			if got, ok := impl.GroupOf(c.degree, c.generators); !ok || !equalLists(got, g) {
				t.Fatalf("GroupOf(%d, %v) = %v, %v", c.degree, c.generators, got, ok)
			}
			if got := impl.ClassesOf(g); !slices.Equal(got, classesByDefinition(g)) {
				t.Fatalf("ClassesOf(%v) = %v", g, got)
			}
		}
	}
	for _, x := range largeGroups() {
		for range 20 {
			if got, ok := impl.GroupOf(x.degree, x.generators); ok || len(got) != 0 {
				t.Fatalf("GroupOf(%d, %v) = %v, %v", x.degree, x.generators, got, ok)
			}
		}
	}
}
