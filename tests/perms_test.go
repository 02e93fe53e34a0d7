package tests

import (
	"fmt"
	"math"
	"slices"
	"strings"
	"testing"

	"loop.example/g01041/impl"
)

// allLists returns every list of n of these numbers.
func allLists(numbers []int, n int) [][]int {
	lists := [][]int{{}}
	for range n {
		var longer [][]int
		for _, l := range lists {
			for _, x := range numbers {
				longer = append(longer, append(slices.Clone(l), x))
			}
		}
		lists = longer
	}
	return lists
}

// upTo returns 0, 1 and so on up to n.
func upTo(n int) []int {
	l := make([]int, n)
	for i := range l {
		l[i] = i
	}
	return l
}

// holdsEachOnce is the definition of a permutation, word for word.
func holdsEachOnce(l []int) bool {
	sorted := slices.Sorted(slices.Values(l))
	return slices.Equal(sorted, upTo(len(l)))
}

// permsOf returns all permutations of degree n, found without impl.
func permsOf(n int) [][]int {
	perms := [][]int{{}}
	for last := range n {
		var longer [][]int
		for _, p := range perms {
			for at := range last + 1 {
				longer = append(longer, slices.Insert(slices.Clone(p), at, last))
			}
		}
		perms = longer
	}
	return perms
}

// somePerms returns all permutations of small degrees, and of each greater one
// a few hundred that follow a fixed rule.
func somePerms() [][]int {
	var some [][]int
	for n := 1; n <= 5; n++ {
		some = append(some, permsOf(n)...)
	}
	seed := uint32(1)
	for n := 6; n <= impl.MaxDegree; n++ {
		some = append(some, upTo(n))
		for range 300 {
			p := upTo(n)
			for i := n - 1; i > 0; i-- {
				seed = seed*1664525 + 1013904223
				j := int(seed>>16) % (i + 1)
				p[i], p[j] = p[j], p[i]
			}
			some = append(some, p)
		}
	}
	return some
}

// notPerms returns lists that are no permutation of a degree from 1 to MaxDegree.
func notPerms() [][]int {
	lists := [][]int{
		nil, {},
		{1}, {-1}, {10}, {math.MinInt}, {math.MaxInt},
		{0, 0}, {1, 1}, {1, 2}, {0, 2}, {-1, 0}, {0, -1}, {2, 1}, {0, math.MaxInt}, {math.MinInt, 0}, {0, 1 << 32},
		{0, 1, 1}, {1, 2, 3}, {0, 1, 3}, {2, 1, -1}, {-1, 0, 1}, {256, 1, 2}, {0, 1, 2, 0},
		upTo(11), upTo(12), upTo(100), upTo(5000),
		{10, 9, 8, 7, 6, 5, 4, 3, 2, 1, 0},
		{1, 2, 3, 4, 5, 6, 7, 8, 9, 10},
		{0, 1, 2, 3, 4, 5, 6, 7, 8, 8}, {9, 1, 2, 3, 4, 5, 6, 7, 8, 9},
		{0, 1, 2, 3, 4, 5, 6, 7, 8, 10}, {-1, 1, 2, 3, 4, 5, 6, 7, 8, 9},
	}
	for n := 1; n <= 4; n++ {
		for _, l := range allLists([]int{-1, 0, 1, 2, 3, 4, math.MaxInt}, n) {
			if !holdsEachOnce(l) {
				lists = append(lists, l)
			}
		}
	}
	return lists
}

func TestPermOk(t *testing.T) {
	for n := 1; n <= 5; n++ {
		numbers := append([]int{-1, n, math.MinInt}, upTo(n)...)
		for _, l := range allLists(numbers, n) {
			if got, want := impl.PermOk(l), holdsEachOnce(l); got != want {
				t.Errorf("PermOk(%v) = %v", l, got)
			}
		}
	}
	for _, p := range somePerms() {
		if !impl.PermOk(p) {
			t.Errorf("PermOk(%v) = false", p)
		}
	}
	for _, l := range notPerms() {
		if impl.PermOk(l) {
			t.Errorf("PermOk of %d numbers, %v = true", len(l), l)
		}
	}
}

func TestIdentityPerm(t *testing.T) {
	if impl.MaxDegree != 10 {
		t.Errorf("MaxDegree = %d", impl.MaxDegree)
	}
	for n := 1; n <= 10; n++ {
		if got := impl.IdentityPerm(n); !slices.Equal(got, upTo(n)) {
			t.Errorf("IdentityPerm(%d) = %v", n, got)
		}
	}
	for _, n := range []int{0, -1, -10, 11, 12, 1000, 1 << 32, 1<<32 + 1, math.MaxInt, math.MinInt, math.MinInt + 1} {
		if got := impl.IdentityPerm(n); len(got) != 0 {
			t.Errorf("IdentityPerm(%d) = %v", n, got)
		}
	}
}

func TestComposePerm(t *testing.T) {
	cases := []struct{ p, q, want []int }{
		{[]int{0}, []int{0}, []int{0}},
		{[]int{1, 0}, []int{1, 0}, []int{0, 1}},
		// These two differ by their order alone.
		{[]int{1, 2, 0}, []int{1, 0, 2}, []int{0, 2, 1}},
		{[]int{1, 0, 2}, []int{1, 2, 0}, []int{2, 1, 0}},
		{[]int{1, 2, 3, 4, 5, 6, 7, 8, 9, 0}, []int{9, 8, 7, 6, 5, 4, 3, 2, 1, 0}, []int{8, 7, 6, 5, 4, 3, 2, 1, 0, 9}},
		{[]int{9, 8, 7, 6, 5, 4, 3, 2, 1, 0}, []int{1, 2, 3, 4, 5, 6, 7, 8, 9, 0}, []int{0, 9, 8, 7, 6, 5, 4, 3, 2, 1}},
	}
	for _, c := range cases {
		if got, ok := impl.ComposePerm(c.p, c.q); !ok || !slices.Equal(got, c.want) {
			t.Errorf("ComposePerm(%v, %v) = %v, %v, want %v", c.p, c.q, got, ok, c.want)
		}
	}
}

// composed carries each point as p and then as q does.
func composed(p []int, q []int) []int {
	var r []int
	for _, x := range p {
		r = append(r, q[x])
	}
	return r
}

func TestPermsCompose(t *testing.T) {
	some := somePerms()
	check := func(p []int, q []int) {
		got, ok := impl.ComposePerm(p, q)
		if !ok || !slices.Equal(got, composed(p, q)) {
			t.Errorf("ComposePerm(%v, %v) = %v, %v", p, q, got, ok)
		}
	}
	for i, p := range some {
		check(p, p)
		for _, q := range some[i:min(i+150, len(some))] {
			if len(p) == len(q) {
				check(p, q)
				check(q, p)
			}
		}
	}
}

func TestComposePermRejects(t *testing.T) {
	check := func(p []int, q []int) {
		if got, ok := impl.ComposePerm(p, q); ok || len(got) != 0 {
			t.Errorf("ComposePerm(%v, %v) = %v, %v", p, q, got, ok)
		}
	}
	for a := range 12 {
		for b := range 12 {
			if a != b || a == 0 || a == 11 {
				check(upTo(a), upTo(b))
			}
		}
	}
	for _, bad := range notPerms() {
		check(bad, bad)
		if 1 <= len(bad) && len(bad) <= impl.MaxDegree {
			check(bad, upTo(len(bad)))
			check(upTo(len(bad)), bad)
		}
	}
}

func TestInversePerm(t *testing.T) {
	cases := []struct{ p, want []int }{
		{[]int{0}, []int{0}},
		{[]int{1, 0}, []int{1, 0}},
		{[]int{1, 2, 0}, []int{2, 0, 1}},
		{[]int{3, 0, 1, 4, 2}, []int{1, 2, 4, 0, 3}},
		{[]int{1, 2, 3, 4, 5, 6, 7, 8, 9, 0}, []int{9, 0, 1, 2, 3, 4, 5, 6, 7, 8}},
	}
	for _, c := range cases {
		if got, ok := impl.InversePerm(c.p); !ok || !slices.Equal(got, c.want) {
			t.Errorf("InversePerm(%v) = %v, %v, want %v", c.p, got, ok, c.want)
		}
	}
	for _, p := range somePerms() {
		got, ok := impl.InversePerm(p)
		if !ok || len(got) != len(p) || !slices.Equal(composed(p, got), upTo(len(p))) {
			t.Errorf("InversePerm(%v) = %v, %v", p, got, ok)
		}
	}
	for _, bad := range notPerms() {
		if got, ok := impl.InversePerm(bad); ok || len(got) != 0 {
			t.Errorf("InversePerm(%v) = %v, %v", bad, got, ok)
		}
	}
}

func TestPowerPerm(t *testing.T) {
	perms := append(permsOf(1), permsOf(3)...)
	perms = append(perms,
		[]int{1, 0, 3, 4, 2},
		[]int{1, 2, 3, 4, 5, 6, 7, 8, 9, 0},
		[]int{1, 0, 3, 4, 2, 6, 7, 8, 9, 5},
		[]int{1, 2, 3, 4, 5, 6, 0, 8, 9, 7})
	for _, p := range perms {
		want := upTo(len(p))
		for k := 0; k <= 1000; k++ {
			if got, ok := impl.PowerPerm(p, k); !ok || !slices.Equal(got, want) {
				t.Errorf("PowerPerm(%v, %d) = %v, %v, want %v", p, k, got, ok, want)
			}
			want = composed(want, p)
		}
	}
	for _, p := range somePerms() {
		for k, want := range [][]int{upTo(len(p)), p, composed(p, p), composed(p, composed(p, p))} {
			if got, ok := impl.PowerPerm(p, k); !ok || !slices.Equal(got, want) {
				t.Errorf("PowerPerm(%v, %d) = %v, %v, want %v", p, k, got, ok, want)
			}
		}
	}
}

func TestPowerPermRejects(t *testing.T) {
	for n := 1; n <= 10; n++ {
		for _, k := range []int{-1, -2, -1000, 1001, 1002, 2000, 1 << 32, math.MaxInt, math.MinInt} {
			if got, ok := impl.PowerPerm(upTo(n), k); ok || len(got) != 0 {
				t.Errorf("PowerPerm of degree %d with the exponent %d = %v, %v", n, k, got, ok)
			}
		}
	}
	for _, bad := range notPerms() {
		for _, k := range []int{-1, 0, 1, 1000, 1001} {
			if got, ok := impl.PowerPerm(bad, k); ok || len(got) != 0 {
				t.Errorf("PowerPerm(%v, %d) = %v, %v", bad, k, got, ok)
			}
		}
	}
}

func TestCycles(t *testing.T) {
	cases := []struct {
		p         []int
		cycles    [][]int
		cycleType []int
		order     int
	}{
		{[]int{0}, [][]int{{0}}, []int{1}, 1},
		{[]int{0, 1}, [][]int{{0}, {1}}, []int{2, 0}, 1},
		{[]int{1, 0}, [][]int{{0, 1}}, []int{0, 1}, 2},
		{[]int{2, 0, 1}, [][]int{{0, 2, 1}}, []int{0, 0, 1}, 3},
		{[]int{0, 2, 1}, [][]int{{0}, {1, 2}}, []int{1, 1, 0}, 2},
		{[]int{1, 0, 2, 4, 3}, [][]int{{0, 1}, {2}, {3, 4}}, []int{1, 2, 0, 0, 0}, 2},
		{[]int{1, 2, 0, 4, 3}, [][]int{{0, 1, 2}, {3, 4}}, []int{0, 1, 1, 0, 0}, 6},
		{[]int{4, 3, 2, 1, 0}, [][]int{{0, 4}, {1, 3}, {2}}, []int{1, 2, 0, 0, 0}, 2},
		{upTo(10), [][]int{{0}, {1}, {2}, {3}, {4}, {5}, {6}, {7}, {8}, {9}}, []int{10, 0, 0, 0, 0, 0, 0, 0, 0, 0}, 1},
		{[]int{9, 0, 1, 2, 3, 4, 5, 6, 7, 8}, [][]int{{0, 9, 8, 7, 6, 5, 4, 3, 2, 1}}, []int{0, 0, 0, 0, 0, 0, 0, 0, 0, 1}, 10},
		{[]int{9, 7, 4, 5, 6, 3, 8, 1, 2, 0}, [][]int{{0, 9}, {1, 7}, {2, 4, 6, 8}, {3, 5}}, []int{0, 3, 0, 1, 0, 0, 0, 0, 0, 0}, 4},
		{[]int{1, 0, 3, 4, 2, 6, 7, 8, 9, 5}, [][]int{{0, 1}, {2, 3, 4}, {5, 6, 7, 8, 9}}, []int{0, 1, 1, 0, 1, 0, 0, 0, 0, 0}, 30},
		{[]int{1, 2, 3, 4, 5, 6, 0, 8, 9, 7}, [][]int{{0, 1, 2, 3, 4, 5, 6}, {7, 8, 9}}, []int{0, 0, 1, 0, 0, 0, 1, 0, 0, 0}, 21},
		{[]int{1, 2, 3, 0, 5, 6, 7, 8, 9, 4}, [][]int{{0, 1, 2, 3}, {4, 5, 6, 7, 8, 9}}, []int{0, 0, 0, 1, 0, 1, 0, 0, 0, 0}, 12},
	}
	for _, c := range cases {
		if got := impl.CyclesOf(c.p); !slices.EqualFunc(got, c.cycles, slices.Equal) {
			t.Errorf("CyclesOf(%v) = %v, want %v", c.p, got, c.cycles)
		}
		if got := impl.CycleType(c.p); !slices.Equal(got, c.cycleType) {
			t.Errorf("CycleType(%v) = %v, want %v", c.p, got, c.cycleType)
		}
		if got := impl.CountCycles(c.p); got != len(c.cycles) {
			t.Errorf("CountCycles(%v) = %d, want %d", c.p, got, len(c.cycles))
		}
		if got := impl.OrderOf(c.p); got != c.order {
			t.Errorf("OrderOf(%v) = %d, want %d", c.p, got, c.order)
		}
	}
}

// checkCycles holds the cycles of p against each clause of their definition.
func checkCycles(t *testing.T, p []int) {
	t.Helper()
	var firsts, points []int
	numbers := make([]int, len(p))
	cycles := impl.CyclesOf(p)
	for _, cycle := range cycles {
		if len(cycle) == 0 {
			t.Errorf("CyclesOf(%v) = %v has an empty cycle", p, cycles)
			return
		}
		firsts = append(firsts, cycle[0])
		points = append(points, cycle...)
		numbers[len(cycle)-1]++
		if cycle[0] != slices.Min(cycle) {
			t.Errorf("CyclesOf(%v) = %v has a cycle that does not begin with its least point", p, cycles)
		}
		for i, x := range cycle {
			if p[x] != cycle[(i+1)%len(cycle)] {
				t.Errorf("CyclesOf(%v) = %v has a point after which another one comes", p, cycles)
			}
		}
	}
	if !slices.IsSorted(firsts) || !holdsEachOnce(points) || len(points) != len(p) {
		t.Errorf("CyclesOf(%v) = %v", p, cycles)
	}
	if got := impl.CycleType(p); !slices.Equal(got, numbers) {
		t.Errorf("CycleType(%v) = %v, want %v", p, got, numbers)
	}
	if got := impl.CountCycles(p); got != len(cycles) {
		t.Errorf("CountCycles(%v) = %d, want %d", p, got, len(cycles))
	}
}

func TestCyclesOfSomePerms(t *testing.T) {
	for _, p := range somePerms() {
		checkCycles(t, p)
		order, power := 1, p
		for !slices.Equal(power, upTo(len(p))) {
			order, power = order+1, composed(power, p)
		}
		if got := impl.OrderOf(p); got != order {
			t.Errorf("OrderOf(%v) = %d, want %d", p, got, order)
		}
	}
	for _, bad := range notPerms() {
		if got := impl.CyclesOf(bad); len(got) != 0 {
			t.Errorf("CyclesOf(%v) = %v", bad, got)
		}
		if got := impl.CycleType(bad); len(got) != 0 {
			t.Errorf("CycleType(%v) = %v", bad, got)
		}
		if got := impl.CountCycles(bad); got != 0 {
			t.Errorf("CountCycles(%v) = %d", bad, got)
		}
		if got := impl.OrderOf(bad); got != 0 {
			t.Errorf("OrderOf(%v) = %d", bad, got)
		}
	}
}

func TestFormatPerm(t *testing.T) {
	cases := []struct {
		p    []int
		want string
	}{
		{[]int{0}, "0"},
		{[]int{0, 1}, "0,1"},
		{[]int{1, 0}, "1,0"},
		{[]int{1, 2, 0}, "1,2,0"},
		{upTo(10), "0,1,2,3,4,5,6,7,8,9"},
		{[]int{9, 8, 7, 6, 5, 4, 3, 2, 1, 0}, "9,8,7,6,5,4,3,2,1,0"},
	}
	for _, c := range cases {
		if got := impl.FormatPerm(c.p); got != c.want {
			t.Errorf("FormatPerm(%v) = %q, want %q", c.p, got, c.want)
		}
	}
	for _, bad := range notPerms() {
		if got := impl.FormatPerm(bad); got != "" {
			t.Errorf("FormatPerm(%v) = %q", bad, got)
		}
	}
}

// textOf writes the elements of any list as FormatPerm writes those of a permutation.
func textOf(l []int) string {
	return strings.ReplaceAll(strings.Trim(fmt.Sprint(l), "[]"), " ", ",")
}

func TestPermsAreRecovered(t *testing.T) {
	for _, p := range somePerms() {
		text := impl.FormatPerm(p)
		if text != textOf(p) {
			t.Errorf("FormatPerm(%v) = %q", p, text)
		}
		if got, ok := impl.ParsePerm(text); !ok || !slices.Equal(got, p) {
			t.Errorf("ParsePerm(%q) = %v, %v", text, got, ok)
		}
	}
}

func TestParsePermRejects(t *testing.T) {
	texts := []string{
		"", ",", "1", "-1", "-0", "+0", "00", "01", "0,", ",0", "1,,0", "1,0,", ",1,0", "1, 0", "1 ,0", " 1,0", "1,0 ", "1 0", "1,0\n", "\n1,0",
		"01,0", "1,00", "1,-0", "+1,0", "1,1", "0,0", "0,2", "2,1", "-1,0", "0,1,3", "1,2", "1;0", "1.0", "10", "(1,0)", "[1,0]", "1,0,x", "x", "0x1,0",
		"0,1,2,3,4,5,6,7,8,9,10", "10,9,8,7,6,5,4,3,2,1,0", "0,1,2,3,4,5,6,7,8,10", "0,1,2,3,4,5,6,7,8,8", "0,1,2,3,4,5,6,7,8,9,", "0,1,2,3,4,5,6,7,8,9,9",
		"0,18446744073709551617", "9223372036854775808,0", "-9223372036854775808,0", "0,4294967297",
		"1\x00,0", "1,0\x00", "1,\uff10", "1\u060c0", "1\u201a0", strings.Repeat("0,", 5000) + "0", strings.Repeat("0", 5000), strings.Repeat(",", 5000),
	}
	for _, l := range notPerms() {
		texts = append(texts, textOf(l))
	}
	for _, s := range append(texts, invalid...) {
		if got, ok := impl.ParsePerm(s); ok || len(got) != 0 {
			t.Errorf("ParsePerm(%q) = %v, %v", s, got, ok)
		}
	}
}

func TestParsePermOfAllShortTexts(t *testing.T) {
	perms := map[string][]int{}
	for n := 1; n <= 3; n++ {
		for _, p := range permsOf(n) {
			perms[textOf(p)] = p
		}
	}
	for _, s := range allTexts([]string{"0", "1", "2", ",", " ", "-", "+", "\xff"}, 5) {
		want, wantOk := perms[s]
		if got, ok := impl.ParsePerm(s); ok != wantOk || !slices.Equal(got, want) {
			t.Errorf("ParsePerm(%q) = %v, %v, want %v, %v", s, got, ok, want, wantOk)
		}
	}
}

// withSpare returns l, as the beginning of a longer list that is returned, too.
func withSpare(l []int) ([]int, []int) {
	store := append(slices.Clone(l), 77, 78, 79, 80)
	return store[:len(l)], store
}

func TestPermArgumentsAreLeft(t *testing.T) {
	for _, l := range append(somePerms(), notPerms()...) {
		p, storeP := withSpare(l)
		q, storeQ := withSpare(l)
		before := slices.Clone(storeP)
		impl.PermOk(p)
		impl.ComposePerm(p, q)
		impl.ComposePerm(p, p)
		impl.InversePerm(p)
		for _, k := range []int{0, 1, 2, 7} {
			impl.PowerPerm(p, k)
		}
		impl.CyclesOf(p)
		impl.CycleType(p)
		impl.CountCycles(p)
		impl.OrderOf(p)
		impl.FormatPerm(p)
		if !slices.Equal(storeP, before) || !slices.Equal(storeQ, before) {
			t.Errorf("an argument %v, or what is behind it, is changed: %v, %v", l, storeP, storeQ)
		}
	}
}

// permResults returns all lists that the functions give for p, each of one call.
func permResults(p []int) [][]int {
	inverse, _ := impl.InversePerm(p)
	composed, _ := impl.ComposePerm(p, p)
	withIdentity, _ := impl.ComposePerm(p, impl.IdentityPerm(len(p)))
	parsed, _ := impl.ParsePerm(impl.FormatPerm(p))
	all := [][]int{inverse, composed, withIdentity, parsed, impl.IdentityPerm(len(p)), impl.CycleType(p)}
	for _, k := range []int{0, 1, 2, 1000} {
		power, _ := impl.PowerPerm(p, k)
		all = append(all, power)
	}
	return append(all, impl.CyclesOf(p)...)
}

// TestPermResultsAreNew overwrites each result up to its capacity: neither an
// argument, nor another result, nor a later one may show it.
func TestPermResultsAreNew(t *testing.T) {
	for _, p := range somePerms() {
		argument := slices.Clone(p)
		results := permResults(argument)
		var want [][]int
		for _, l := range results {
			want = append(want, slices.Clone(l))
		}
		for i, l := range results {
			whole := l[:cap(l)]
			for j := range whole {
				whole[j] = -100 - i
			}
			for j := i + 1; j < len(results); j++ {
				if !slices.Equal(results[j], want[j]) {
					t.Fatalf("results %d and %d for %v share memory", i, j, p)
				}
			}
			for _, x := range l {
				if x != -100-i {
					t.Fatalf("the result %d for %v shares memory", i, p)
				}
			}
		}
		if !slices.Equal(argument, p) {
			t.Fatalf("a result for %v shares memory with it", p)
		}
		if !slices.EqualFunc(permResults(p), want, slices.Equal) {
			t.Fatalf("the results for %v are others after the first ones were changed", p)
		}
	}
}
