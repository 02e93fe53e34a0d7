package tests

import (
	"fmt"
	"math"
	"runtime"
	"slices"
	"testing"

	"loop.example/g01041/impl"
)

// recolored has h[x] where list has x.
func recolored(list []int, h []int) []int {
	var r []int
	for _, x := range list {
		r = append(r, h[x])
	}
	return r
}

// bothImages calls check with each coloring to which an element of g and an exchange
// of k colors carry list, found without impl.
func bothImages(g [][]int, k int, list []int, check func(image []int)) {
	exchanges := permsOf(k)
	for _, p := range g {
		moved := carried(p, list)
		for _, h := range exchanges {
			check(recolored(moved, h))
		}
	}
}

// leastExchangeOf is the definition of CanonExchange, word for word.
func leastExchangeOf(g [][]int, k int, list []int) []int {
	least := list
	bothImages(g, k, list, func(image []int) {
		if slices.Compare(image, least) < 0 {
			least = image
		}
	})
	return least
}

// exchangeClasses returns, in lexicographic order, the least colorings with k colors
// up to g and exchanges, and for the key of each coloring the least one to which it
// is carried; found without impl.
func exchangeClasses(g [][]int, k int) ([][]int, map[string][]int) {
	var least [][]int
	leastOf := map[string][]int{}
	for _, list := range allLists(upTo(k), len(g[0])) {
		if leastOf[keyOf(list)] != nil {
			continue
		}
		least = append(least, list)
		bothImages(g, k, list, func(image []int) { leastOf[keyOf(image)] = list })
	}
	return least, leastOf
}

// countExchangeOf is the definition of CountExchange, word for word.
func countExchangeOf(g [][]int, k int) int {
	sum, exchanges := 0, permsOf(k)
	for _, p := range g {
		for _, h := range exchanges {
			product := 1
			for _, length := range lengthsOf(p) {
				kept := 0
				for color := range k {
					x := color
					for range length {
						x = h[x]
					}
					if x == color {
						kept++
					}
				}
				product *= kept
			}
			sum += product
		}
	}
	return sum / (len(g) * len(exchanges))
}

// leastNumbers is the definition of FirstColors: each color becomes the number of
// different colors that are met before it.
func leastNumbers(list []int) []int {
	var r []int
	for i, x := range list {
		first := slices.Index(list, x)
		r = append(r, usedIn(list[:first]))
		if first < i {
			r[i] = r[first]
		}
	}
	return r
}

func usedIn(list []int) int {
	return len(slices.Compact(slices.Sorted(slices.Values(list))))
}

// exchangeGroups returns moreGroups, those of solid bodies, and those of words up to
// reflection alone.
func exchangeGroups(t *testing.T) [][][]int {
	groups := moreGroups(t)
	eachSolid(func(_ solidKind, _ bool, g [][]int) { groups = append(groups, g) })
	for n := 2; n <= 10; n++ {
		turned := upTo(n)
		slices.Reverse(turned)
		groups = append(groups, [][]int{upTo(n), turned})
	}
	return groups
}

// listedExchanges calls check with each group of exchangeGroups and each number of
// colors for which its patterns are listed.
func listedExchanges(t *testing.T, check func(g [][]int, k int)) {
	for _, g := range exchangeGroups(t) {
		for k := 1; k <= 4; k++ {
			if isListed(len(g[0]), k) {
				check(g, k)
			}
		}
	}
}

func checkCanonExchange(t *testing.T, g [][]int, k int, list []int, want []int) {
	t.Helper()
	if got, ok := impl.CanonExchange(g, k, list); !ok || !slices.Equal(got, want) {
		t.Fatalf("CanonExchange(%v, %d, %v) = %v, %v, want %v", g, k, list, got, ok, want)
	}
}

func TestExchangeColors(t *testing.T) {
	cases := []struct{ list, h, want []int }{
		{[]int{0}, []int{0}, []int{0}},
		{[]int{0}, []int{1, 0}, []int{1}},
		{[]int{1}, []int{1, 0}, []int{0}},
		{[]int{0, 0, 0}, []int{0}, []int{0, 0, 0}},
		{[]int{0, 1, 1}, []int{0, 1}, []int{0, 1, 1}},
		{[]int{0, 1, 1}, []int{1, 0}, []int{1, 0, 0}},
		// Not the inverse.
		{[]int{0, 1, 2}, []int{1, 2, 0}, []int{1, 2, 0}},
		{[]int{2, 2, 0, 1}, []int{1, 2, 0}, []int{0, 0, 1, 2}},
		{[]int{0, 1, 2, 3}, []int{1, 2, 3, 0}, []int{1, 2, 3, 0}},
		{[]int{3, 0, 3, 1}, []int{2, 0, 3, 1}, []int{1, 2, 1, 0}},
		// The color that h has in the place of another one need not be used.
		{[]int{0, 0}, []int{3, 2, 1, 0}, []int{3, 3}},
		{[]int{1, 0}, []int{2, 0, 1}, []int{0, 2}},
		{[]int{0, 1, 2, 3, 3, 2, 1, 0, 0, 1}, []int{3, 0, 1, 2}, []int{3, 0, 1, 2, 2, 1, 0, 3, 3, 0}},
		{[]int{0, 0, 0, 0, 0, 0, 0, 0, 0, 0}, []int{0}, []int{0, 0, 0, 0, 0, 0, 0, 0, 0, 0}},
	}
	for _, c := range cases {
		if got, ok := impl.ExchangeColors(c.list, c.h); !ok || !slices.Equal(got, c.want) {
			t.Errorf("ExchangeColors(%v, %v) = %v, %v, want %v", c.list, c.h, got, ok, c.want)
		}
	}
}

// TestExchangeSomeColors takes all exchanges, so that some have less colors than the
// coloring has.
func TestExchangeSomeColors(t *testing.T) {
	for n := 1; n <= 10; n++ {
		for _, list := range someColorings(n) {
			for k := 1; k <= 4; k++ {
				for _, h := range permsOf(k) {
					got, ok := impl.ExchangeColors(list, h)
					if slices.Max(list) >= k {
						if ok || len(got) > 0 {
							t.Errorf("ExchangeColors(%v, %v) = %v, %v", list, h, got, ok)
						}
						continue
					}
					if want := recolored(list, h); !ok || !slices.Equal(got, want) {
						t.Errorf("ExchangeColors(%v, %v) = %v, %v, want %v", list, h, got, ok, want)
					}
				}
			}
		}
	}
}

func TestExchangesGoAlongWithComposing(t *testing.T) {
	for n := 1; n <= 3; n++ {
		for _, list := range allLists(upTo(4), n) {
			for _, first := range permsOf(4) {
				once, _ := impl.ExchangeColors(list, first)
				for _, second := range permsOf(4) {
					twice, ok := impl.ExchangeColors(once, second)
					both, _ := impl.ComposePerm(first, second)
					if want, alsoOk := impl.ExchangeColors(list, both); !ok || !alsoOk || !slices.Equal(twice, want) {
						t.Fatalf("ExchangeColors of %v by %v and %v is %v, %v, and by both at once %v, %v", list, first, second, twice, ok, want, alsoOk)
					}
				}
				inverse, _ := impl.InversePerm(first)
				if back, ok := impl.ExchangeColors(once, inverse); !ok || !slices.Equal(back, list) {
					t.Fatalf("ExchangeColors of %v by %v, and back, is %v, %v", list, first, back, ok)
				}
				for _, p := range permsOf(n) {
					moved, _ := impl.ActOn(p, list)
					before, _ := impl.ActOn(p, once)
					if after, ok := impl.ExchangeColors(moved, first); !ok || !slices.Equal(before, after) {
						t.Fatalf("ExchangeColors of %v by %v, and ActOn by %v, is %v, and the other way round %v, %v", list, first, p, before, after, ok)
					}
				}
			}
			if same, ok := impl.ExchangeColors(list, impl.IdentityPerm(4)); !ok || !slices.Equal(same, list) {
				t.Fatalf("ExchangeColors of %v by the identity is %v, %v", list, same, ok)
			}
		}
	}
}

func checkNoExchange(t *testing.T, list []int, h []int) {
	t.Helper()
	if got, ok := impl.ExchangeColors(list, h); ok || len(got) > 0 {
		t.Errorf("ExchangeColors(%.70s, %.70s) = %v, %v", fmt.Sprint(list), fmt.Sprint(h), got, ok)
	}
}

func TestWrongExchanges(t *testing.T) {
	wrong := notPerms()
	for n := 5; n <= 12; n++ {
		turned := upTo(n)
		slices.Reverse(turned)
		wrong = append(wrong, upTo(n), turned)
	}
	for _, h := range wrong {
		for color := range 4 {
			checkNoExchange(t, []int{color}, h)
			checkNoExchange(t, slices.Repeat([]int{color}, max(len(h), 1)), h)
		}
		checkNoExchange(t, []int{0, 1, 2, 3}, h)
		checkNoExchange(t, make([]int, 10), h)
		checkNoExchange(t, h, h)
		checkNoExchange(t, nil, h)
	}
	for _, list := range notColorings() {
		for k := 1; k <= 4; k++ {
			checkNoExchange(t, list, upTo(k))
			checkNoExchange(t, list, cycling(k, upTo(k)))
		}
		checkNoExchange(t, list, nil)
	}
}

// TestColorsThatExchangesDoNotHave puts one color that is too great at each point.
func TestColorsThatExchangesDoNotHave(t *testing.T) {
	for n := 1; n <= 10; n++ {
		for at := range n {
			for k := 1; k <= 4; k++ {
				for _, color := range append(extremes, -1, k, k+1, 4, 5, 10) {
					list := make([]int, n)
					list[at] = color
					if color >= 0 && color < k {
						continue
					}
					checkNoExchange(t, list, upTo(k))
					checkNoExchange(t, list, cycling(k, upTo(k)))
				}
			}
		}
	}
}

func TestColorsUsed(t *testing.T) {
	cases := []struct {
		list []int
		want int
	}{
		{[]int{0}, 1}, {[]int{3}, 1}, {[]int{0, 0}, 1}, {[]int{0, 1}, 2}, {[]int{3, 0}, 2}, {[]int{0, 2, 2}, 2}, {[]int{1, 1, 1}, 1},
		{[]int{3, 2, 1}, 3}, {[]int{3, 2, 1, 0}, 4}, {[]int{0, 3, 0, 3, 3, 0}, 2}, {[]int{2, 2, 2, 2, 2, 2, 2, 2, 2, 2}, 1},
		{[]int{0, 0, 0, 0, 0, 0, 0, 0, 0, 3}, 2}, {[]int{0, 1, 2, 3, 0, 1, 2, 3, 0, 1}, 4}, {[]int{2, 1, 2, 1, 2, 1, 3, 3, 3, 3}, 3},
	}
	for _, c := range cases {
		if got := impl.ColorsUsed(c.list); got != c.want {
			t.Errorf("ColorsUsed(%v) = %d, want %d", c.list, got, c.want)
		}
	}
	for n := 1; n <= 10; n++ {
		for _, list := range someColorings(n) {
			if got, want := impl.ColorsUsed(list), usedIn(list); got != want {
				t.Errorf("ColorsUsed(%v) = %d, want %d", list, got, want)
			}
		}
	}
}

func TestFirstColors(t *testing.T) {
	cases := []struct{ list, want []int }{
		{[]int{0}, []int{0}},
		{[]int{3}, []int{0}},
		{[]int{2, 0, 2}, []int{0, 1, 0}},
		{[]int{1, 0}, []int{0, 1}},
		{[]int{3, 2, 1, 0}, []int{0, 1, 2, 3}},
		{[]int{0, 3, 1}, []int{0, 1, 2}},
		{[]int{0, 2, 1, 2}, []int{0, 1, 2, 1}},
		{[]int{1, 1, 2, 2, 0, 0}, []int{0, 0, 1, 1, 2, 2}},
		{[]int{3, 3, 3, 3, 3, 3, 3, 3, 3, 1}, []int{0, 0, 0, 0, 0, 0, 0, 0, 0, 1}},
		{[]int{2, 3, 0, 1, 2, 3, 0, 1, 1, 0}, []int{0, 1, 2, 3, 0, 1, 2, 3, 3, 2}},
		// Already in order.
		{[]int{0, 1, 2, 3}, []int{0, 1, 2, 3}},
		{[]int{0, 0, 1, 0, 2}, []int{0, 0, 1, 0, 2}},
		{[]int{0, 1, 0, 1, 2, 2, 0, 3, 1, 3}, []int{0, 1, 0, 1, 2, 2, 0, 3, 1, 3}},
	}
	for _, c := range cases {
		if got, ok := impl.FirstColors(c.list); !ok || !slices.Equal(got, c.want) {
			t.Errorf("FirstColors(%v) = %v, %v, want %v", c.list, got, ok, c.want)
		}
	}
	for n := 1; n <= 10; n++ {
		for color := range 4 {
			list := slices.Repeat([]int{color}, n)
			if got, ok := impl.FirstColors(list); !ok || !slices.Equal(got, make([]int, n)) {
				t.Errorf("FirstColors(%v) = %v, %v", list, got, ok)
			}
		}
	}
}

// TestFirstColorsOfSomeColorings holds, too, that FirstColors is the least of what
// exchanges make of a coloring, and that all of these have it.
func TestFirstColorsOfSomeColorings(t *testing.T) {
	for n := 1; n <= 10; n++ {
		lists := someColorings(n)
		if n == 5 {
			lists = allLists(upTo(4), n)
		}
		for _, list := range lists {
			got, ok := impl.FirstColors(list)
			if !ok || !slices.Equal(got, leastNumbers(list)) {
				t.Fatalf("FirstColors(%v) = %v, %v, want %v", list, got, ok, leastNumbers(list))
			}
			if !slices.Equal(got, leastExchangeOf(identityOf(n), 4, list)) {
				t.Fatalf("FirstColors(%v) = %v, but the least is %v", list, got, leastExchangeOf(identityOf(n), 4, list))
			}
			checkCanonExchange(t, identityOf(n), 4, list, got)
			if again, ok := impl.FirstColors(got); !ok || !slices.Equal(again, got) {
				t.Fatalf("FirstColors(%v) = %v, %v", got, again, ok)
			}
			if impl.ColorsUsed(got) != impl.ColorsUsed(list) || slices.Max(got) != impl.ColorsUsed(list)-1 {
				t.Fatalf("FirstColors(%v) = %v has other colors", list, got)
			}
			for _, h := range permsOf(4) {
				image, _ := impl.ExchangeColors(list, h)
				if other, ok := impl.FirstColors(image); !ok || !slices.Equal(other, got) {
					t.Fatalf("FirstColors(%v) = %v, %v, want %v, that of %v", image, other, ok, got, list)
				}
			}
		}
	}
}

func TestColorsOfNoColoring(t *testing.T) {
	for _, list := range notColorings() {
		if got := impl.ColorsUsed(list); got != 0 {
			t.Errorf("ColorsUsed(%.70s) = %d", fmt.Sprint(list), got)
		}
		if got, ok := impl.FirstColors(list); ok || len(got) > 0 {
			t.Errorf("FirstColors(%.70s) = %v, %v", fmt.Sprint(list), got, ok)
		}
	}
}

func TestCanonExchange(t *testing.T) {
	square, both := turnsOf(t, 4), bothWaysOf(t, 4)
	cases := []struct {
		g          [][]int
		k          int
		list, want []int
	}{
		{identityOf(1), 1, []int{0}, []int{0}},
		{identityOf(1), 4, []int{3}, []int{0}},
		{identityOf(3), 3, []int{2, 1, 0}, []int{0, 1, 2}},
		{identityOf(3), 4, []int{2, 1, 2}, []int{0, 1, 0}},
		{square, 2, []int{1, 1, 1, 0}, []int{0, 0, 0, 1}},
		{square, 2, []int{1, 0, 1, 0}, []int{0, 1, 0, 1}},
		{square, 2, []int{1, 1, 1, 1}, []int{0, 0, 0, 0}},
		{square, 2, []int{0, 1, 1, 0}, []int{0, 0, 1, 1}},
		{square, 4, []int{3, 2, 1, 0}, []int{0, 1, 2, 3}},
		{square, 4, []int{0, 3, 1, 3}, []int{0, 1, 0, 2}},
		{square, 3, []int{2, 2, 0, 1}, []int{0, 0, 1, 2}},
		{both, 3, []int{1, 0, 0, 2}, []int{0, 0, 1, 2}},
		// Neither a turn nor an exchange leads to a lesser one, but both together do.
		{turnsOf(t, 3), 2, []int{0, 1, 1}, []int{0, 0, 1}},
		{turnsOf(t, 5), 3, []int{0, 0, 1, 2, 2}, []int{0, 0, 1, 1, 2}},
		{[][]int{{0, 1, 2}, {1, 0, 2}}, 2, []int{0, 1, 0}, []int{0, 1, 0}},
		{[][]int{{0, 1, 2}, {1, 0, 2}}, 2, []int{1, 0, 0}, []int{0, 1, 0}},
		{[][]int{{0, 1, 2}, {1, 0, 2}}, 2, []int{1, 1, 0}, []int{0, 0, 1}},
		{allOfFive(t), 4, []int{3, 1, 2, 3, 1}, []int{0, 0, 1, 1, 2}},
		{allOfFive(t), 2, []int{0, 0, 1, 1, 1}, []int{0, 0, 0, 1, 1}},
		// All edges of five vertices but one, which is as one edge alone.
		{allOfFiveOnPairs(t), 2, []int{1, 1, 1, 0, 1, 1, 1, 1, 1, 1}, []int{0, 0, 0, 0, 0, 0, 0, 0, 0, 1}},
		{turnsOf(t, 10), 4, []int{3, 3, 2, 1, 0, 3, 3, 2, 1, 0}, []int{0, 0, 1, 2, 3, 0, 0, 1, 2, 3}},
	}
	for _, c := range cases {
		if want := leastExchangeOf(c.g, c.k, c.list); !slices.Equal(c.want, want) {
			t.Errorf("the least of %v with %d colors up to %v is %v", c.list, c.k, c.g, want)
		}
		checkCanonExchange(t, c.g, c.k, c.list, c.want)
		checkCanonExchange(t, c.g, c.k, c.want, c.want)
	}
}

// TestCanonExchangeOfAllColorings takes all colorings of small degrees up to
// rotations, reflections and all permutations, so that of each of them it has every
// image by an element and an exchange.
func TestCanonExchangeOfAllColorings(t *testing.T) {
	for n := 1; n <= 5; n++ {
		turned := upTo(n)
		slices.Reverse(turned)
		all := groupOf(t, upTo(n), cycling(n, upTo(n)), cycling(n, upTo(min(n, 2))))
		for _, g := range [][][]int{identityOf(n), turnsOf(t, n), groupOf(t, cycling(n, upTo(n)), turned), all} {
			for k := 1; k <= 4; k++ {
				_, leastOf := exchangeClasses(g, k)
				if len(leastOf) != power(k, n) {
					t.Fatalf("there are %d colorings of degree %d with %d colors", len(leastOf), n, k)
				}
				for _, list := range allLists(upTo(k), n) {
					checkCanonExchange(t, g, k, list, leastOf[keyOf(list)])
				}
			}
		}
	}
}

// TestCanonExchangeOfSomeGroups takes all colorings, or, if there are many for a
// great group, every few of them.
func TestCanonExchangeOfSomeGroups(t *testing.T) {
	listedExchanges(t, func(g [][]int, k int) {
		_, leastOf := exchangeClasses(g, k)
		step := 1 + len(g)*power(k, len(g[0]))/5000
		lists := allLists(upTo(k), len(g[0]))
		for i := len(g) % step; i < len(lists); i += step {
			checkCanonExchange(t, g, k, lists[i], leastOf[keyOf(lists[i])])
		}
	})
}

// TestCanonExchangeOfManyColorings takes degrees and numbers of colors, too, for which
// no patterns are listed, and colorings that do not use all colors.
func TestCanonExchangeOfManyColorings(t *testing.T) {
	for i, g := range exchangeGroups(t) {
		lists := someColorings(len(g[0]))
		for j := i % 7; j < len(lists); j += 1 + len(lists)/25 + len(g)/20 {
			list := lists[j]
			want := leastExchangeOf(g, 4, list)
			for k := 1; k <= 4; k++ {
				if slices.Max(list) >= k {
					checkNoCanonExchange(t, g, k, list)
					continue
				}
				checkCanonExchange(t, g, k, list, want)
			}
		}
	}
}

// TestImagesHaveOneCanonExchange goes by the functions of impl alone.
func TestImagesHaveOneCanonExchange(t *testing.T) {
	for i, g := range exchangeGroups(t) {
		lists := someColorings(len(g[0]))
		list := lists[(5+13*i)%len(lists)]
		canon, ok := impl.CanonExchange(g, 4, list)
		if !ok {
			t.Fatalf("CanonExchange(%v, 4, %v) = %v, %v", g, list, canon, ok)
		}
		exchanges := permsOf(4)
		for j, p := range g {
			moved, _ := impl.ActOn(p, list)
			for l := j % 5; l < 24; l += 1 + len(g)/10 {
				image, _ := impl.ExchangeColors(moved, exchanges[l])
				checkCanonExchange(t, g, 4, image, canon)
			}
		}
		checkCanonExchange(t, g, 4, canon, canon)
	}
}

func TestExchangePatterns(t *testing.T) {
	cases := []struct {
		g    [][]int
		k    int
		want [][]int
	}{
		{identityOf(1), 1, [][]int{{0}}},
		{identityOf(1), 4, [][]int{{0}}},
		{identityOf(2), 1, [][]int{{0, 0}}},
		{identityOf(2), 4, [][]int{{0, 0}, {0, 1}}},
		{turnsOf(t, 2), 2, [][]int{{0, 0}, {0, 1}}},
		{identityOf(3), 2, [][]int{{0, 0, 0}, {0, 0, 1}, {0, 1, 0}, {0, 1, 1}}},
		{identityOf(3), 3, [][]int{{0, 0, 0}, {0, 0, 1}, {0, 1, 0}, {0, 1, 1}, {0, 1, 2}}},
		{turnsOf(t, 3), 4, [][]int{{0, 0, 0}, {0, 0, 1}, {0, 1, 2}}},
		{turnsOf(t, 4), 2, [][]int{{0, 0, 0, 0}, {0, 0, 0, 1}, {0, 0, 1, 1}, {0, 1, 0, 1}}},
		{turnsOf(t, 4), 3, [][]int{{0, 0, 0, 0}, {0, 0, 0, 1}, {0, 0, 1, 1}, {0, 0, 1, 2}, {0, 1, 0, 1}, {0, 1, 0, 2}}},
		{turnsOf(t, 4), 4, [][]int{{0, 0, 0, 0}, {0, 0, 0, 1}, {0, 0, 1, 1}, {0, 0, 1, 2}, {0, 1, 0, 1}, {0, 1, 0, 2}, {0, 1, 2, 3}}},
		{[][]int{{0, 1, 2}, {1, 0, 2}}, 2, [][]int{{0, 0, 0}, {0, 0, 1}, {0, 1, 0}}},
		{allOfFive(t), 4, [][]int{{0, 0, 0, 0, 0}, {0, 0, 0, 0, 1}, {0, 0, 0, 1, 1}, {0, 0, 0, 1, 2}, {0, 0, 1, 1, 2}, {0, 0, 1, 2, 3}}},
		{turnsOf(t, 10), 1, [][]int{make([]int, 10)}},
	}
	for _, c := range cases {
		if got, ok := impl.ExchangePatterns(c.g, c.k); !ok || !equalLists(got, c.want) {
			t.Errorf("ExchangePatterns(%v, %d) = %v, %v, want %v", c.g, c.k, got, ok, c.want)
		}
	}
}

func TestExchangePatternsOfSomeGroups(t *testing.T) {
	listedExchanges(t, func(g [][]int, k int) {
		got, ok := impl.ExchangePatterns(g, k)
		want, _ := exchangeClasses(g, k)
		if !ok || !equalLists(got, want) {
			t.Errorf("ExchangePatterns(%v, %d) = %v, %v, want %v", g, k, got, ok, want)
		}
		if count := impl.CountExchange(g, k); len(got) != count {
			t.Errorf("%v has %d patterns up to exchanges of %d colors, counted are %d", g, len(got), k, count)
		}
		if all, _ := impl.PatternsOf(g, k); k == 1 && !equalLists(got, all) || len(got) > len(all) {
			t.Errorf("%v has %d patterns up to exchanges of %d colors, without them %d", g, len(got), k, len(all))
		}
		for i, list := range got {
			if i > 0 && slices.Compare(got[i-1], list) >= 0 {
				t.Errorf("ExchangePatterns(%v, %d) has %v before %v", g, k, got[i-1], list)
			}
			if i%(1+len(got)/10) == 0 {
				checkCanonExchange(t, g, k, list, list)
			}
		}
	})
}

// TestExchangesKeepThePatterns: each exchange carries the listed patterns to patterns
// of the same classes, and so do the elements.
func TestExchangesKeepThePatterns(t *testing.T) {
	listedExchanges(t, func(g [][]int, k int) {
		list, _ := impl.ExchangePatterns(g, k)
		step := 1 + len(list)*len(g)/600
		for i := len(g) % step; i < len(list); i += step {
			for _, h := range permsOf(k) {
				image, ok := impl.ExchangeColors(list[i], h)
				if !ok {
					t.Fatalf("ExchangeColors(%v, %v) fails", list[i], h)
				}
				checkCanonExchange(t, g, k, image, list[i])
			}
			for _, p := range g[:min(len(g), 6)] {
				image, _ := impl.ActOn(p, list[i])
				checkCanonExchange(t, g, k, image, list[i])
			}
		}
	})
}

// TestExchangePatternsStandForTheirImages: all images together are all colorings,
// each of them once.
func TestExchangePatternsStandForTheirImages(t *testing.T) {
	listedExchanges(t, func(g [][]int, k int) {
		list, _ := impl.ExchangePatterns(g, k)
		met := map[string]int{}
		for i, x := range list {
			bothImages(g, k, x, func(image []int) {
				key := keyOf(image)
				if before, ok := met[key]; ok && before != i {
					t.Fatalf("ExchangePatterns(%v, %d) has both %v and %v", g, k, list[before], x)
				}
				met[key] = i
			})
		}
		if want := power(k, len(g[0])); len(met) != want {
			t.Errorf("ExchangePatterns(%v, %d) stand for %d colorings, want %d", g, k, len(met), want)
		}
	})
}

// TestLimitOfExchangePatterns takes all degrees for each number of colors; the powers
// of 2 and of 4 are exactly 1024.
func TestLimitOfExchangePatterns(t *testing.T) {
	for k, degree := range map[int]int{1: 10, 2: 10, 3: 6, 4: 5} {
		for n := 1; n <= 10; n++ {
			for _, g := range [][][]int{identityOf(n), turnsOf(t, n), bothWaysOf(t, n)} {
				got, ok := impl.ExchangePatterns(g, k)
				if _, listed := impl.PatternsOf(g, k); ok != listed || ok != (n <= degree) {
					t.Errorf("ExchangePatterns of degree %d with %d colors: %v", n, k, ok)
				}
				if !ok && len(got) > 0 || ok && len(got) != impl.CountExchange(g, k) {
					t.Errorf("ExchangePatterns(%v, %d) has %d elements", g, k, len(got))
				}
			}
		}
	}
}

func TestCountExchange(t *testing.T) {
	count := func(groupOf func(n int) [][]int) func(n int, k int) int {
		return func(n int, k int) int { return impl.CountExchange(groupOf(n), k) }
	}
	checkCounts(t, "CountExchange of rotations", count(func(n int) [][]int { return turnsOf(t, n) }), map[int][]int{
		1: {1, 1, 1, 1, 1, 1, 1, 1, 1, 1},
		2: {1, 2, 2, 4, 4, 8, 10, 20, 30, 56},
		3: {1, 2, 3, 6, 9, 26, 53, 146, 369, 1002},
		4: {1, 2, 3, 7, 11, 39, 103, 367, 1235, 4439},
	})
	checkCounts(t, "CountExchange of rotations and reflections", count(func(n int) [][]int { return bothWaysOf(t, n) }), map[int][]int{
		1: {1, 1, 1, 1, 1, 1, 1, 1, 1, 1},
		2: {1, 2, 2, 4, 4, 8, 9, 18, 23, 44},
		3: {1, 2, 3, 6, 9, 22, 40, 100, 225, 582},
		4: {1, 2, 3, 7, 11, 33, 73, 237, 703, 2433},
	})
}

// TestCountExchangeOfAllPermutations: up to all permutations, a coloring is only the
// numbers of points with a color; on pairs, two colors are a graph or its complement.
func TestCountExchangeOfAllPermutations(t *testing.T) {
	onPoints := [][]int{{1, 1, 1, 1}, {1, 2, 2, 2}, {1, 2, 3, 3}, {1, 3, 4, 5}, {1, 3, 5, 6}}
	onPairs := map[int][]int{3: {1, 2, 3, 3}, 4: {1, 6, 15, 22}, 5: {1, 18, 142, 513}}
	for n := 1; n <= 5; n++ {
		g, _ := impl.SymmetricGroup(n)
		pairs, ok := impl.PairGroup(g)
		for k := 1; k <= 4; k++ {
			if got, want := impl.CountExchange(g, k), onPoints[n-1][k-1]; got != want {
				t.Errorf("CountExchange of all permutations of %d points with %d colors is %d, want %d", n, k, got, want)
			}
			if !ok {
				continue
			}
			if got, want := impl.CountExchange(pairs, k), onPairs[n][k-1]; got != want {
				t.Errorf("CountExchange of all permutations of %d points on pairs with %d colors is %d, want %d", n, k, got, want)
			}
		}
	}
	for n := 3; n <= 5; n++ {
		var same int
		for g := range 1 << (n * (n - 1) / 2) {
			if impl.CanonGraph(n, g) == g && impl.IsSelfComplementary(n, g) {
				same++
			}
		}
		all, _ := impl.SymmetricGroup(n)
		pairs, _ := impl.PairGroup(all)
		if got := impl.CountExchange(pairs, 2); 2*got != impl.CountGraphs(n)+same {
			t.Errorf("up to complements there are %d graphs of %d vertices, and %d of them all are their own", got, n, same)
		}
	}
}

func TestCountExchangeOfSomeGroups(t *testing.T) {
	for _, g := range exchangeGroups(t) {
		for k := 1; k <= 4; k++ {
			got := impl.CountExchange(g, k)
			if want := countExchangeOf(g, k); got != want {
				t.Errorf("CountExchange(%v, %d) = %d, want %d", g, k, got, want)
			}
			all := impl.CountColorings(g, k)
			if k == 1 && got != 1 || got > all || got*factorial(k) < all {
				t.Errorf("CountExchange(%v, %d) = %d, while CountColorings is %d", g, k, got, all)
			}
			if k > len(g[0]) && got != impl.CountExchange(g, len(g[0])) {
				t.Errorf("CountExchange(%v, %d) = %d: there are more colors than points", g, k, got)
			}
		}
	}
}

func TestCountPartitions(t *testing.T) {
	checkCounts(t, "CountPartitions", impl.CountPartitions, map[int][]int{
		1: {1, 1, 1, 1, 1, 1, 1, 1, 1, 1},
		2: {1, 2, 4, 8, 16, 32, 64, 128, 256, 512},
		3: {1, 2, 5, 14, 41, 122, 365, 1094, 3281, 9842},
		4: {1, 2, 5, 15, 51, 187, 715, 2795, 11051, 43947},
	})
	lengthsAndColors(func(n int, k int) {
		got := impl.CountPartitions(n, k)
		if want := impl.CountExchange(identityOf(n), k); got != want {
			t.Errorf("CountPartitions(%d, %d) = %d, but CountExchange is %d", n, k, got, want)
		}
		if list, ok := impl.ExchangePatterns(identityOf(n), k); ok && len(list) != got {
			t.Errorf("CountPartitions(%d, %d) = %d, but listed are %d", n, k, got, len(list))
		}
	})
}

// TestRecursionOfPartitions: a point comes into one of the parts of the others, or is
// a new part.
func TestRecursionOfPartitions(t *testing.T) {
	exactly := func(n int, k int) int {
		if k == 1 {
			return impl.CountPartitions(n, 1)
		}
		return impl.CountPartitions(n, k) - impl.CountPartitions(n, k-1)
	}
	for n := 1; n <= 10; n++ {
		if exactly(n, 1) != 1 {
			t.Errorf("there are %d divisions of %d points into one part", exactly(n, 1), n)
		}
		for k := 2; k <= 4; k++ {
			want := 0
			if n > 1 {
				want = k*exactly(n-1, k) + exactly(n-1, k-1)
			}
			if got := exactly(n, k); got != want {
				t.Errorf("there are %d divisions of %d points into %d parts, want %d", got, n, k, want)
			}
		}
	}
}

// TestPartitionsAreFound counts the colorings of which the colors are met in order, and
// those of them with each number of colors.
func TestPartitionsAreFound(t *testing.T) {
	for n := 1; n <= 7; n++ {
		inOrder := make([]int, 5)
		eachWord(n, 4, func(word []int) {
			if first, ok := impl.FirstColors(word); ok && slices.Equal(first, word) {
				for k := impl.ColorsUsed(word); k <= 4; k++ {
					inOrder[k]++
				}
			}
		})
		for k := 1; k <= 4; k++ {
			if got := impl.CountPartitions(n, k); got != inOrder[k] {
				t.Errorf("CountPartitions(%d, %d) = %d, found are %d", n, k, got, inOrder[k])
			}
		}
	}
}

func checkNoPartitions(t *testing.T, n int, k int) {
	t.Helper()
	if got := impl.CountPartitions(n, k); got != -1 {
		t.Errorf("CountPartitions(%d, %d) = %d", n, k, got)
	}
}

func TestWrongPartitions(t *testing.T) {
	wrongDegrees := append(extremes, -1, 0, 11, 12, 20, 64, 1<<32+10, 1<<62+1, -1<<32+3)
	wrongColors := append(extremes, -1, 0, 5, 6, 7, 8, 10, 11, 64, 1<<62+1, -1<<32+3)
	for _, n := range wrongDegrees {
		for k := -1; k <= 5; k++ {
			checkNoPartitions(t, n, k)
		}
		checkNoPartitions(t, n, n)
	}
	for _, k := range wrongColors {
		for n := range 12 {
			checkNoPartitions(t, n, k)
		}
	}
}

func checkNoCanonExchange(t *testing.T, g [][]int, k int, list []int) {
	t.Helper()
	if got, ok := impl.CanonExchange(g, k, list); ok || len(got) > 0 {
		t.Errorf("CanonExchange(%v, %d, %v) = %v, %v", g, k, list, got, ok)
	}
}

// checkNoExchangesOf holds that there is nothing up to g and exchanges of k colors.
func checkNoExchangesOf(t *testing.T, g [][]int, k int) {
	t.Helper()
	if got := impl.CountExchange(g, k); got != -1 {
		t.Errorf("CountExchange(%v, %d) = %d", g, k, got)
	}
	if got, ok := impl.ExchangePatterns(g, k); ok || len(got) > 0 {
		t.Errorf("ExchangePatterns(%v, %d) = %v, %v", g, k, got, ok)
	}
	lists := [][]int{nil, {0}, make([]int, 10)}
	if len(g) > 0 {
		lists = append(lists, g[0], make([]int, len(g[0])))
	}
	for _, list := range lists {
		checkNoCanonExchange(t, g, k, list)
	}
}

func TestExchangesOfNoGroup(t *testing.T) {
	for _, bad := range notGroups() {
		for k := -1; k <= 5; k++ {
			checkNoExchangesOf(t, bad, k)
		}
	}
}

func TestExchangesWithWrongNumbersOfColors(t *testing.T) {
	for _, g := range someGroups(t) {
		for _, k := range []int{-1, 0, 5, math.MaxInt, math.MinInt} {
			checkNoExchangesOf(t, g, k)
		}
	}
	for _, k := range append(extremes, 6, 7, 8, 10, 11, 64, 120) {
		checkNoExchangesOf(t, identityOf(1), k)
		checkNoExchangesOf(t, [][]int{{0, 1}, {1, 0}}, k)
		checkNoExchangesOf(t, bothWaysOf(t, 10), k)
		checkNoExchangesOf(t, nil, k)
	}
}

func TestCanonExchangeOfNoColoring(t *testing.T) {
	for _, bad := range notColorings() {
		n := min(max(len(bad), 1), 10)
		for k := 1; k <= 4; k++ {
			checkNoCanonExchange(t, identityOf(n), k, bad)
			checkNoCanonExchange(t, turnsOf(t, n), k, bad)
		}
	}
}

func TestCanonExchangeOfDifferentDegrees(t *testing.T) {
	for n := 1; n <= 10; n++ {
		for other := range 13 {
			if other == n {
				continue
			}
			for k := 1; k <= 4; k++ {
				list := slices.Repeat([]int{k - 1}, other)
				checkNoCanonExchange(t, identityOf(n), k, list)
				checkNoCanonExchange(t, bothWaysOf(t, n), k, list)
			}
		}
	}
}

// TestGreatestColorAtCanonExchange puts a color of k - 1, of k and of more at each point.
func TestGreatestColorAtCanonExchange(t *testing.T) {
	for n := 1; n <= 10; n++ {
		g := turnsOf(t, n)
		for at := range n {
			for k := 1; k <= 4; k++ {
				list := make([]int, n)
				list[at] = k - 1
				want := make([]int, n)
				if k > 1 && n > 1 {
					want[n-1] = 1
				}
				checkCanonExchange(t, g, k, list, want)
				for color := k; color <= 5; color++ {
					list[at] = color
					checkNoCanonExchange(t, g, k, list)
				}
			}
		}
	}
}

func TestExchangeArgumentsAreLeft(t *testing.T) {
	for i, lists := range append(someGroups(t), notGroups()...) {
		if len(lists) > 200 {
			continue
		}
		g, stored := spareLists(lists)
		n := 4
		if len(g) > 0 {
			n = len(g[0])
		}
		colors := make([]int, n)
		for j := range colors {
			colors[j] = (i + 3*j + j*j) % 4
		}
		list, storeList := withSpare(colors)
		h, storeH := withSpare(permsOf(4)[i%24])
		before := fmt.Sprint(stored(), storeList, storeH)
		impl.ExchangeColors(list, h)
		impl.ExchangeColors(h, h)
		impl.ExchangeColors(list, list)
		impl.ColorsUsed(list)
		impl.FirstColors(list)
		for k := range 6 {
			impl.CountExchange(g, k)
			impl.CanonExchange(g, k, list)
			impl.CanonExchange(g, k, h)
			impl.ExchangePatterns(g, k)
		}
		if got := fmt.Sprint(stored(), storeList, storeH); got != before {
			t.Errorf("an argument %v, %v or %v, or what is behind it, is changed: %s", lists, colors, h, got)
		}
	}
	for _, l := range append(notPerms(), notColorings()...) {
		list, store := withSpare(l)
		before := slices.Clone(store)
		impl.ExchangeColors(list, []int{1, 0})
		impl.ExchangeColors([]int{0, 1}, list)
		impl.ColorsUsed(list)
		impl.FirstColors(list)
		impl.CanonExchange([][]int{{0}}, 2, list)
		if !slices.Equal(store, before) {
			t.Errorf("an argument %v, or what is behind it, is changed: %v", l, store)
		}
	}
}

// exchangeResults returns all results for g and a coloring that are lists, each of
// one call.
func exchangeResults(g [][]int, list []int) [][][]int {
	first, _ := impl.FirstColors(list)
	all := [][][]int{{first}}
	for k := 1; k <= 4; k++ {
		canon, _ := impl.CanonExchange(g, k, list)
		patterns, _ := impl.ExchangePatterns(g, k)
		exchanged, _ := impl.ExchangeColors(list, cycling(k, upTo(k)))
		same, _ := impl.ExchangeColors(list, upTo(k))
		all = append(all, [][]int{canon}, patterns, [][]int{exchanged}, [][]int{same})
	}
	return all
}

// TestExchangeResultsAreNew takes colorings, too, that their results are equal to.
func TestExchangeResultsAreNew(t *testing.T) {
	for _, g := range someGroups(t) {
		if len(g) > 30 && isListed(len(g[0]), 4) {
			continue
		}
		checkResultsAreNew(t, g, oneColorEach(g[len(g)-1]), exchangeResults)
		checkResultsAreNew(t, g, make([]int, len(g[0])), exchangeResults)
	}
}

func TestExchangeResultsAreAlwaysEqual(t *testing.T) {
	words := slices.Concat(someColorings(2), someColorings(5)[:8], someColorings(10), notColorings()[:8])
	checkAlwaysEqual(t, words, func(word []int) []any {
		n := len(word)
		g, _ := impl.DihedralGroup(n)
		return []any{
			exchangeResults(g, word), impl.ColorsUsed(word), impl.CountExchange(g, 3), impl.CountPartitions(n, 4),
		}
	})
}

// TestExchangesEnd holds that no call leaves a goroutine behind.
func TestExchangesEnd(t *testing.T) {
	before := runtime.NumGoroutine()
	for n := range 12 {
		g, _ := impl.DihedralGroup(n)
		for k := range 6 {
			impl.CountExchange(g, k)
			impl.CountPartitions(n, k)
			impl.CanonExchange(g, k, make([]int, n))
			impl.ExchangePatterns(g, k)
		}
	}
	checkGoroutinesEnd(t, before)
}
