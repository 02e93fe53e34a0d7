package tests

import (
	"fmt"
	"math"
	"slices"
	"strings"
	"sync"
	"testing"

	"loop.example/g01041/impl"
)

// isTree is the definition of a rooted tree, word for word.
func isTree(l []int) bool {
	for v, parent := range l {
		if v == 0 && parent != -1 || v > 0 && (parent < 0 || parent >= v) {
			return false
		}
	}
	return len(l) >= 1 && len(l) <= 12
}

// treesOf returns all lists of n parents, so every tree under every numbering.
func treesOf(n int) [][]int {
	trees := [][]int{{-1}}
	for size := 1; size < n; size++ {
		var longer [][]int
		for _, tree := range trees {
			for parent := range size {
				longer = append(longer, append(slices.Clone(tree), parent))
			}
		}
		trees = longer
	}
	return trees
}

func path(n int) []int {
	tree := upTo(n)
	for v := range tree {
		tree[v]--
	}
	return tree
}

func star(n int) []int {
	tree := make([]int, n)
	tree[0] = -1
	return tree
}

// codeBelow returns the code of a vertex, by its definition and without impl.
func codeBelow(tree []int, v int) string {
	var codes []string
	for child, parent := range tree {
		if parent == v {
			codes = append(codes, codeBelow(tree, child))
		}
	}
	slices.SortFunc(codes, func(a string, b string) int { return strings.Compare(b, a) })
	return "(" + strings.Join(codes, "") + ")"
}

// partsOf returns the least texts of which text consists and in which as many ( are
// closed as opened; false if there is no such list.
func partsOf(text string) ([]string, bool) {
	var parts []string
	start, open := 0, 0
	for i := range len(text) {
		switch text[i] {
		case '(':
			open++
		case ')':
			open--
		default:
			return nil, false
		}
		if open < 0 {
			return nil, false
		}
		if open == 0 {
			parts = append(parts, text[start:i+1])
			start = i + 1
		}
	}
	return parts, open == 0
}

// isCodeOfAnySize reports whether text is a code, if there is no greatest tree.
func isCodeOfAnySize(text string) bool {
	parts, ok := partsOf(text)
	if !ok || len(parts) != 1 {
		return false
	}
	children, _ := partsOf(text[1 : len(text)-1])
	for i, child := range children {
		if !isCodeOfAnySize(child) || i > 0 && children[i-1] < child {
			return false
		}
	}
	return true
}

func isCode(text string) bool {
	return len(text) <= 24 && isCodeOfAnySize(text)
}

// parentsByPlace looks backwards from each ( of a code for the one in which it stands.
func parentsByPlace(code string) []int {
	var tree []int
	for i := range len(code) {
		if code[i] == ')' {
			continue
		}
		at, closed := i-1, 0
		for ; at >= 0 && (code[at] == ')' || closed > 0); at-- {
			if code[at] == ')' {
				closed++
			} else {
				closed--
			}
		}
		tree = append(tree, strings.Count(code[:at+1], "(")-1)
	}
	return tree
}

// forestsOf returns the joined codes of all descending lists of n vertices with no
// code greater than last.
func forestsOf(codes [][]string, n int, last string) []string {
	if n == 0 {
		return []string{""}
	}
	var all []string
	for size := 1; size <= n; size++ {
		for _, code := range codes[size] {
			if code > last {
				continue
			}
			for _, rest := range forestsOf(codes, n-size, code) {
				all = append(all, code+rest)
			}
		}
	}
	return all
}

// codesOfTrees returns at the index n, from 1 to 12, all codes of n vertices in
// ascending order, found without impl.
var codesOfTrees = sync.OnceValue(func() [][]string {
	codes := [][]string{nil}
	for n := 1; n <= 12; n++ {
		var all []string
		for _, forest := range forestsOf(codes, n-1, ")") {
			all = append(all, "("+forest+")")
		}
		slices.Sort(all)
		codes = append(codes, all)
	}
	return codes
})

func eachCode(check func(code string)) {
	for _, codes := range codesOfTrees() {
		for _, code := range codes {
			check(code)
		}
	}
}

// renumbered returns the list in which each vertex v is called p[v]. It may be no
// tree, as a vertex may come before its parent.
func renumbered(tree []int, p []int) []int {
	r := make([]int, len(tree))
	r[p[0]] = -1
	for v := 1; v < len(tree); v++ {
		r[p[v]] = p[tree[v]]
	}
	return r
}

// otherNumberings returns a few lists of the tree in which the vertices come in an
// order that follows a fixed rule, each behind its parent.
func otherNumberings(tree []int) [][]int {
	var lists [][]int
	seed := uint32(len(tree))
	for range 4 {
		p := make([]int, len(tree))
		waiting := []int{0}
		for number := range tree {
			seed = seed*1664525 + 1013904223
			i := int(seed>>16) % len(waiting)
			v := waiting[i]
			waiting = slices.Delete(waiting, i, i+1)
			p[v] = number
			for child, parent := range tree {
				if parent == v {
					waiting = append(waiting, child)
				}
			}
		}
		lists = append(lists, renumbered(tree, p))
	}
	return lists
}

// rootedAt returns the tree that has the same edges and the root v.
func rootedAt(tree []int, v int) []int {
	list, order := []int{-1}, []int{v}
	for at := 0; at < len(order); at++ {
		for other := range tree {
			isEdge := tree[other] == order[at] || tree[order[at]] == other
			if isEdge && !slices.Contains(order, other) {
				order = append(order, other)
				list = append(list, at)
			}
		}
	}
	return list
}

// countWithoutRoots returns how many trees without a root have these codes.
func countWithoutRoots(codes []string, codeOf func(tree []int) string) int {
	met := map[string]bool{}
	count := 0
	for _, code := range codes {
		if met[code] {
			continue
		}
		count++
		tree := parentsByPlace(code)
		for v := range tree {
			met[codeOf(rootedAt(tree, v))] = true
		}
	}
	return count
}

// waysByDefinition counts the permutations of the vertices that keep the tree.
func waysByDefinition(tree []int, perms [][]int) int {
	ways := 0
	for _, p := range perms {
		if slices.Equal(renumbered(tree, p), tree) {
			ways++
		}
	}
	return ways
}

// waysOf goes by the code, and returns how its vertices can be permuted.
func waysOf(code string) int {
	children, _ := partsOf(code[1 : len(code)-1])
	ways := 1
	numbers := map[string]int{}
	for _, child := range children {
		numbers[child]++
		ways *= waysOf(child) * numbers[child]
	}
	return ways
}

// heightOf returns how many ( are open at the same time, at the most, without the first.
func heightOf(code string) int {
	height, open := 0, 0
	for _, letter := range code {
		if letter == '(' {
			open++
		} else {
			open--
		}
		height = max(height, open-1)
	}
	return height
}

type treeCase struct {
	label  string
	tree   []int
	code   string
	ways   int
	height int
}

// treeCases are written down by hand.
func treeCases() []treeCase {
	return []treeCase{
		{"one vertex", []int{-1}, "()", 1, 0},
		{"two vertices", []int{-1, 0}, "(())", 1, 1},
		{"a path of three", []int{-1, 0, 1}, "((()))", 1, 2},
		{"a star of three", []int{-1, 0, 0}, "(()())", 2, 1},
		{"a path of four", []int{-1, 0, 1, 2}, "(((())))", 1, 3},
		{"two children below one", []int{-1, 0, 1, 1}, "((()()))", 2, 2},
		{"different children, the greater code last", []int{-1, 0, 0, 1}, "(()(()))", 1, 2},
		{"different children, the greater code first", []int{-1, 0, 0, 2}, "(()(()))", 1, 2},
		{"different children, the lesser code first", []int{-1, 0, 1, 0}, "(()(()))", 1, 2},
		{"a star of four", []int{-1, 0, 0, 0}, "(()()())", 6, 1},
		{"two equal children with a child each", []int{-1, 0, 0, 1, 2}, "((())(()))", 2, 2},
		{"the same, child by child", []int{-1, 0, 1, 0, 3}, "((())(()))", 2, 2},
		{"the same, crossed", []int{-1, 0, 0, 2, 1}, "((())(()))", 2, 2},
		{"a longer code that is less", []int{-1, 0, 1, 1, 0, 4}, "((())(()()))", 2, 2},
		{"a deeper code that is less", []int{-1, 0, 1, 2, 0, 4, 4}, "((()())((())))", 2, 3},
		{"equal children among others", []int{-1, 0, 0, 1, 0, 4, 0}, "(()()(())(()))", 4, 2},
		{"equal children below equal ones", []int{-1, 0, 0, 1, 1, 2, 2}, "((()())(()()))", 8, 2},
		{"children of different vertices with equal codes", []int{-1, 0, 0, 1, 2, 2}, "((())(()()))", 2, 2},
		{"three pairs and a single child", []int{-1, 0, 0, 0, 0, 1, 2, 3}, "(()(())(())(()))", 6, 2},
		{"a path of twelve", []int{-1, 0, 1, 2, 3, 4, 5, 6, 7, 8, 9, 10}, "(((((((((((())))))))))))", 1, 11},
		{"a star of twelve", []int{-1, 0, 0, 0, 0, 0, 0, 0, 0, 0, 0, 0}, "(()()()()()()()()()()())", 39916800, 1},
		{"twelve, ten children below one", []int{-1, 0, 1, 1, 1, 1, 1, 1, 1, 1, 1, 1}, "((()()()()()()()()()()))", 3628800, 2},
		{"twelve, the last one at the end", []int{-1, 0, 0, 0, 0, 0, 0, 0, 0, 0, 0, 10}, "(()()()()()()()()()(()))", 362880, 2},
		{"twelve, two by two", []int{-1, 0, 0, 1, 1, 2, 2, 3, 3, 4, 4, 5}, "((()(()))((()())(()())))", 8, 3},
		{"twelve, a comb", []int{-1, 0, 0, 2, 2, 4, 4, 6, 6, 8, 8, 10}, "(()(()(()(()(()(()))))))", 1, 6},
		{"twelve, three equal children with equal ones", []int{-1, 0, 0, 0, 1, 2, 3, 1, 2, 3, 0, 0}, "(()()(()())(()())(()()))", 2 * 6 * 8, 2},
	}
}

func TestTreeOk(t *testing.T) {
	for n := range 6 {
		numbers := append(upTo(n+1), -1, -2)
		if n < 4 {
			numbers = append(numbers, math.MinInt, math.MaxInt, 1<<32)
		}
		for _, l := range allLists(numbers, n) {
			if got, want := impl.TreeOk(l), isTree(l); got != want {
				t.Errorf("TreeOk(%v) = %v", l, got)
			}
		}
	}
	for n := 1; n <= 7; n++ {
		for _, tree := range treesOf(n) {
			if !impl.TreeOk(tree) {
				t.Errorf("TreeOk(%v) = false", tree)
			}
		}
	}
	for n := 1; n <= 40; n++ {
		if want := n <= 12; impl.TreeOk(path(n)) != want || impl.TreeOk(star(n)) != want {
			t.Errorf("TreeOk is %v and %v for a path and a star of %d", impl.TreeOk(path(n)), impl.TreeOk(star(n)), n)
		}
	}
}

func TestMaxTree(t *testing.T) {
	if impl.MaxTree != 12 {
		t.Errorf("MaxTree = %d", impl.MaxTree)
	}
}

func TestKnownTrees(t *testing.T) {
	for _, c := range treeCases() {
		if !impl.TreeOk(c.tree) {
			t.Errorf("TreeOk(%v) = false: %s", c.tree, c.label)
		}
		if got := impl.TreeCode(c.tree); got != c.code {
			t.Errorf("TreeCode(%v) = %q, want %q: %s", c.tree, got, c.code, c.label)
		}
		if got := impl.TreeRenamings(c.tree); got != c.ways {
			t.Errorf("TreeRenamings(%v) = %d, want %d: %s", c.tree, got, c.ways, c.label)
		}
		if got := impl.HeightOf(c.tree); got != c.height {
			t.Errorf("HeightOf(%v) = %d, want %d: %s", c.tree, got, c.height, c.label)
		}
	}
}

// TestKnownTreesAreDifferent takes all pairs, most of them of different sizes.
func TestKnownTreesAreDifferent(t *testing.T) {
	for _, a := range treeCases() {
		for _, b := range treeCases() {
			if got, want := impl.SameTree(a.tree, b.tree), a.code == b.code; got != want {
				t.Errorf("SameTree(%v, %v) = %v: %s, %s", a.tree, b.tree, got, a.label, b.label)
			}
		}
	}
}

func TestTreeCodeUnderEveryNumbering(t *testing.T) {
	for n := 1; n <= 7; n++ {
		for _, tree := range treesOf(n) {
			if got, want := impl.TreeCode(tree), codeBelow(tree, 0); got != want {
				t.Errorf("TreeCode(%v) = %q, want %q", tree, got, want)
			}
		}
	}
}

// TestTreesAreRecognized holds the codes against the permutations that carry one
// tree to another one, for which no code is needed.
func TestTreesAreRecognized(t *testing.T) {
	for n := 1; n <= 6; n++ {
		trees, perms := treesOf(n), permsOf(n)
		for _, a := range trees {
			same := map[string]bool{}
			for _, p := range perms {
				same[keyOf(renumbered(a, p))] = true
			}
			for _, b := range trees {
				want := same[keyOf(b)]
				if got := impl.SameTree(a, b); got != want {
					t.Errorf("SameTree(%v, %v) = %v", a, b, got)
				}
				if got := impl.TreeCode(a) == impl.TreeCode(b); got != want {
					t.Errorf("TreeCode(%v) = %q, TreeCode(%v) = %q", a, impl.TreeCode(a), b, impl.TreeCode(b))
				}
			}
		}
	}
}

// TestRenumberedTrees: of all permutations, those that leave a vertex before its
// parent make no tree, and the others one with the same code.
func TestRenumberedTrees(t *testing.T) {
	for n := 1; n <= 5; n++ {
		for _, tree := range treesOf(n) {
			code := impl.TreeCode(tree)
			for _, p := range permsOf(n) {
				want, other := "", renumbered(tree, p)
				if isTree(other) {
					want = code
				}
				if got := impl.TreeCode(other); got != want {
					t.Errorf("TreeCode(%v) = %q, want %q, as %v makes it of %v", other, got, want, p, tree)
				}
			}
		}
	}
}

func TestTreesOfDifferentSizes(t *testing.T) {
	for n := 1; n <= 5; n++ {
		for _, a := range treesOf(n) {
			for _, b := range treesOf(n + 1) {
				if impl.SameTree(a, b) || impl.SameTree(b, a) {
					t.Errorf("SameTree(%v, %v) = %v, the other way round %v", a, b, impl.SameTree(a, b), impl.SameTree(b, a))
				}
			}
		}
	}
}

// checkRead checks that the tree is recovered from its code and from other
// numberings of it.
func checkRead(t *testing.T, code string) {
	t.Helper()
	want := parentsByPlace(code)
	tree, ok := impl.ReadTree(code)
	if !ok || !slices.Equal(tree, want) {
		t.Errorf("ReadTree(%q) = %v, %v, want %v", code, tree, ok, want)
	}
	for _, list := range append(otherNumberings(want), want) {
		if got := impl.TreeCode(list); got != code {
			t.Errorf("TreeCode(%v) = %q, want %q", list, got, code)
		}
		if !impl.TreeOk(list) || !impl.SameTree(list, tree) || !impl.SameTree(tree, list) {
			t.Errorf("TreeOk(%v) = %v, SameTree with %v is not true both ways", list, impl.TreeOk(list), tree)
		}
	}
}

func checkNotRead(t *testing.T, text string) {
	t.Helper()
	if got, ok := impl.ReadTree(text); ok || len(got) > 0 {
		t.Errorf("ReadTree(%.60q) = %v, %v", text, got, ok)
	}
}

func checkText(t *testing.T, text string) {
	t.Helper()
	if isCode(text) {
		checkRead(t, text)
	} else {
		checkNotRead(t, text)
	}
}

func TestAllCodesAreRecovered(t *testing.T) {
	eachCode(func(code string) {
		if !isCode(code) {
			t.Errorf("by its parts, %q is no code", code)
		}
		checkRead(t, code)
	})
}

func TestReadTreeOfAllShortTexts(t *testing.T) {
	for _, text := range allTexts([]string{"(", ")"}, 14) {
		checkText(t, text)
	}
	for _, text := range allTexts([]string{"(", ")", "()", "a", " ", "\xff"}, 5) {
		checkText(t, text)
	}
}

func TestReadTreeOrder(t *testing.T) {
	cases := map[string][]int{
		"()":                       {-1},
		"(())":                     {-1, 0},
		"((()))":                   {-1, 0, 1},
		"(()())":                   {-1, 0, 0},
		"(()(()))":                 {-1, 0, 0, 2},
		"((())(()))":               {-1, 0, 1, 0, 3},
		"(()((())))":               {-1, 0, 0, 2, 3},
		"((())(()()))":             {-1, 0, 1, 0, 3, 3},
		"((()())((())))":           {-1, 0, 1, 1, 0, 4, 5},
		"((()(()))((()())(()())))": {-1, 0, 1, 1, 3, 0, 5, 6, 6, 5, 9, 9},
		"(((((((((((())))))))))))": {-1, 0, 1, 2, 3, 4, 5, 6, 7, 8, 9, 10},
		"(()()()()()()()()()()())": {-1, 0, 0, 0, 0, 0, 0, 0, 0, 0, 0, 0},
		"(()(()(()(()(()(()))))))": {-1, 0, 0, 2, 2, 4, 4, 6, 6, 8, 8, 10},
	}
	for code, want := range cases {
		if got, ok := impl.ReadTree(code); !ok || !slices.Equal(got, want) {
			t.Errorf("ReadTree(%q) = %v, %v, want %v", code, got, ok, want)
		}
	}
}

// notCodes returns texts that are no code of 1 to 12 vertices.
func notCodes() []string {
	pathOfTwelve, starOfTwelve := strings.Repeat("(", 12)+strings.Repeat(")", 12), "("+strings.Repeat("()", 11)+")"
	texts := []string{
		"", "(", ")", "((", "))", ")(", "(()", "())", ")()", "()(", "((())", "(()))", "(()()", "())(", "())(()",
		"()()", "()()()", "(())()", "()(())", "(())(())", "(()())(())",
		"((())())", "(((())()))", "(()(())())", "((()())(()))", "((())()())", "(()((())()))", "(((()))(()()))",
		"(a)", "a()", "()a", "a", "(()a())", "[]", "{}", "<>", "(]", "[)", "( )", " ()", "() ", "()\n", "\n()", "(\x00)", "\x00", "()\x00", "(-)", "10", "1100",
		"\uff08\uff09", "\u0128\u0129", "(\xff)", "\xa8\xa9", "()\xff", "\xff()",
		"(" + pathOfTwelve + ")", "(()" + pathOfTwelve[1:], "(" + starOfTwelve + ")", "(()" + starOfTwelve[1:], "(()" + pathOfTwelve[2:] + ")",
		pathOfTwelve + "()", pathOfTwelve + ")", "(" + pathOfTwelve, pathOfTwelve[1:], pathOfTwelve[:23], pathOfTwelve + "a", " " + pathOfTwelve, pathOfTwelve + pathOfTwelve,
		starOfTwelve + "()", starOfTwelve + ")", "(" + starOfTwelve, starOfTwelve[1:], starOfTwelve[:23], starOfTwelve + "a", " " + starOfTwelve, starOfTwelve + starOfTwelve,
	}
	for _, n := range []int{13, 14, 24, 25, 100, 256, 268, 65548, 1 << 20} {
		opening, closing := strings.Repeat("(", n), strings.Repeat(")", n)
		texts = append(texts, opening, closing, opening+closing, opening+closing[1:], "()"+closing, closing+opening, pathOfTwelve+closing)
		texts = append(texts, "("+strings.Repeat("()", n)+")", strings.Repeat("()", n), strings.Repeat("a", n), "()"+strings.Repeat(" ", n), pathOfTwelve+strings.Repeat("\xff", n))
	}
	return append(texts, invalid...)
}

func TestReadTreeRejects(t *testing.T) {
	for _, text := range notCodes() {
		if isCode(text) {
			t.Errorf("%q is a code", text)
		}
		checkNotRead(t, text)
	}
}

// TestReadTreeOfChangedCodes takes each code of up to 6 vertices and some of the
// greater ones, with one letter left out, doubled or replaced, and cut in two.
func TestReadTreeOfChangedCodes(t *testing.T) {
	for n := 1; n <= 12; n++ {
		codes := codesOfTrees()[n]
		for i := 0; i < len(codes); i += 1 + len(codes)/25 {
			code := codes[i]
			for at := range len(code) {
				before, letter, after := code[:at], code[at:at+1], code[at+1:]
				for _, other := range []string{"", letter + letter, "(", ")", "()", ")(", "a", " ", "\x80", letter + " "} {
					checkText(t, before+other+after)
				}
				checkText(t, before)
				checkText(t, after)
				checkText(t, letter+after+before)
			}
		}
	}
}

func TestTreeRenamings(t *testing.T) {
	for n := 1; n <= 6; n++ {
		perms := permsOf(n)
		for _, tree := range treesOf(n) {
			if got, want := impl.TreeRenamings(tree), waysByDefinition(tree, perms); got != want {
				t.Errorf("TreeRenamings(%v) = %d, want %d", tree, got, want)
			}
		}
	}
	perms := permsOf(7)
	for _, code := range codesOfTrees()[7] {
		tree := parentsByPlace(code)
		if got, want := impl.TreeRenamings(tree), waysByDefinition(tree, perms); got != want {
			t.Errorf("TreeRenamings(%v) = %d, want %d", tree, got, want)
		}
	}
}

func TestRenamingsAndHeightsOfAllCodes(t *testing.T) {
	eachCode(func(code string) {
		tree := parentsByPlace(code)
		for _, list := range append(otherNumberings(tree), tree) {
			if got, want := impl.TreeRenamings(list), waysOf(code); got != want {
				t.Errorf("TreeRenamings(%v) = %d, want %d", list, got, want)
			}
			if got, want := impl.HeightOf(list), heightOf(code); got != want {
				t.Errorf("HeightOf(%v) = %d, want %d", list, got, want)
			}
		}
	})
}

// TestHeightOf counts the parents above each vertex of each tree.
func TestHeightOf(t *testing.T) {
	for n := 1; n <= 7; n++ {
		for _, tree := range treesOf(n) {
			above := make([]int, n)
			for v := 1; v < n; v++ {
				above[v] = above[tree[v]] + 1
			}
			if got, want := impl.HeightOf(tree), slices.Max(above); got != want {
				t.Errorf("HeightOf(%v) = %d, want %d", tree, got, want)
			}
		}
	}
	for n := 1; n <= 12; n++ {
		if got, flat := impl.HeightOf(path(n)), impl.HeightOf(star(n)); got != n-1 || flat != min(n-1, 1) {
			t.Errorf("HeightOf is %d and %d for a path and a star of %d", got, flat, n)
		}
	}
}

// TestTreesOfCayley: the codes, numbered in all different ways with any vertex as
// the root, are the trees of n vertices with a root, which are n to the power of n - 1.
func TestTreesOfCayley(t *testing.T) {
	numbered := func(codes []string) int {
		sum := 0
		for _, code := range codes {
			tree, _ := impl.ReadTree(code)
			sum += factorial(len(code)/2) / max(impl.TreeRenamings(tree), 1)
		}
		return sum
	}
	for n := 1; n <= 12; n++ {
		if got, want := numbered(codesOfTrees()[n]), power(n, n-1); got != want {
			t.Errorf("the codes of %d vertices are numbered in %d ways, want %d", n, got, want)
		}
	}
	for n := 1; n <= 7; n++ {
		codes, _ := impl.TreeCodes(n)
		if got, want := numbered(codes), power(n, n-1); got != want {
			t.Errorf("the TreeCodes(%d) are numbered in %d ways, want %d", n, got, want)
		}
	}
}

// TestNumberedTreesAreFound finds all numbered trees with a root, and not only
// their number: each is what a permutation makes of a tree that ReadTree returns.
func TestNumberedTreesAreFound(t *testing.T) {
	for n := 1; n <= 6; n++ {
		found := map[string]bool{}
		codes, _ := impl.TreeCodes(n)
		for _, code := range codes {
			tree, _ := impl.ReadTree(code)
			if len(tree) != n {
				t.Fatalf("ReadTree(%q) = %v", code, tree)
			}
			different := map[string]bool{}
			for _, p := range permsOf(n) {
				different[keyOf(renumbered(tree, p))] = true
			}
			if ways := impl.TreeRenamings(tree); ways*len(different) != factorial(n) {
				t.Errorf("TreeRenamings(%v) = %d, but there are %d different ones", tree, ways, len(different))
			}
			for key := range different {
				if found[key] {
					t.Errorf("the numbered tree %s has the code %q and another one", key, code)
				}
				found[key] = true
			}
		}
		if len(found) != power(n, n-1) {
			t.Errorf("of %d vertices, there are %d numbered trees", n, len(found))
		}
	}
}

func TestCountRooted(t *testing.T) {
	for i, want := range []int{1, 1, 2, 4, 9, 20, 48, 115, 286, 719, 1842, 4766} {
		n := i + 1
		got := impl.CountRooted(n)
		if got != want {
			t.Errorf("CountRooted(%d) = %d, want %d", n, got, want)
		}
		if found := len(codesOfTrees()[n]); got != found {
			t.Errorf("CountRooted(%d) = %d, but there are %d", n, got, found)
		}
		if codes, ok := impl.TreeCodes(n); ok && got != len(codes) {
			t.Errorf("CountRooted(%d) = %d, but listed are %d", n, got, len(codes))
		}
	}
}

func TestCountFree(t *testing.T) {
	definition := func(tree []int) string { return codeBelow(tree, 0) }
	for i, want := range []int{1, 1, 1, 2, 3, 6, 11, 23, 47, 106, 235, 551} {
		n := i + 1
		got := impl.CountFree(n)
		if got != want {
			t.Errorf("CountFree(%d) = %d, want %d", n, got, want)
		}
		codes := codesOfTrees()[n]
		if found, coded := countWithoutRoots(codes, definition), countWithoutRoots(codes, impl.TreeCode); got != found || got != coded {
			t.Errorf("CountFree(%d) = %d, but there are %d, by TreeCode %d", n, got, found, coded)
		}
		if listed, ok := impl.TreeCodes(n); ok && got != countWithoutRoots(listed, impl.TreeCode) {
			t.Errorf("CountFree(%d) = %d, but of those listed there are %d", n, got, countWithoutRoots(listed, impl.TreeCode))
		}
		if rooted := impl.CountRooted(n); got > rooted {
			t.Errorf("CountFree(%d) = %d, but CountRooted is %d", n, got, rooted)
		}
	}
}

func TestTreeCodes(t *testing.T) {
	cases := map[int][]string{
		1: {"()"},
		2: {"(())"},
		3: {"((()))", "(()())"},
		4: {"(((())))", "((()()))", "(()(()))", "(()()())"},
		5: {
			"((((()))))", "(((()())))", "((()(())))", "((()()()))", "((())(()))",
			"(()((())))", "(()(()()))", "(()()(()))", "(()()()())",
		},
	}
	for n, want := range cases {
		if got, ok := impl.TreeCodes(n); !ok || !slices.Equal(got, want) {
			t.Errorf("TreeCodes(%d) = %q, %v, want %q", n, got, ok, want)
		}
	}
	for n := 1; n <= 7; n++ {
		got, ok := impl.TreeCodes(n)
		if want := codesOfTrees()[n]; !ok || !slices.Equal(got, want) {
			t.Errorf("TreeCodes(%d) = %q, %v, want %q", n, got, ok, want)
		}
		for i, code := range got {
			if i > 0 && got[i-1] >= code {
				t.Errorf("TreeCodes(%d) has %q before %q", n, got[i-1], code)
			}
			checkRead(t, code)
		}
	}
}

// TestTreeCodesHaveAllTrees holds TreeCodes against the codes of all lists of parents.
func TestTreeCodesHaveAllTrees(t *testing.T) {
	for n := 1; n <= 7; n++ {
		var want []string
		for _, tree := range treesOf(n) {
			want = append(want, impl.TreeCode(tree))
		}
		slices.Sort(want)
		if got, _ := impl.TreeCodes(n); !slices.Equal(got, slices.Compact(want)) {
			t.Errorf("TreeCodes(%d) = %q, the trees have %q", n, got, slices.Compact(want))
		}
	}
}

func TestWrongSizesOfTrees(t *testing.T) {
	for _, n := range append(extremes, -1, 0, -2, -7, -12, -13, 13, 14, 15, 24, 64, 100, 1000, 1<<16+3, 1<<31, 1<<32+3, 1<<32+12, 1<<62+7, -1<<32+5) {
		if got := impl.CountRooted(n); got != -1 {
			t.Errorf("CountRooted(%d) = %d", n, got)
		}
		if got := impl.CountFree(n); got != -1 {
			t.Errorf("CountFree(%d) = %d", n, got)
		}
		if got, ok := impl.TreeCodes(n); ok || len(got) > 0 {
			t.Errorf("TreeCodes(%d) = %q, %v", n, got, ok)
		}
	}
	for n := 8; n <= 12; n++ {
		if got, ok := impl.TreeCodes(n); ok || len(got) > 0 {
			t.Errorf("TreeCodes(%d) = %q, %v", n, got, ok)
		}
	}
}

// notTrees returns lists that are no tree of 1 to 12 vertices.
func notTrees() [][]int {
	lists := [][]int{
		nil, {}, {0}, {1}, {-2}, {12}, {0, 0}, {1, 0}, {0, -1}, {-2, 0}, {-1, 1}, {-1, -1}, {-1, 2}, {-1, -2}, {-1, 0, 2}, {-1, 2, 0}, {-1, 0, -1}, {-1, 2, 1},
		{0, 0, 0}, {1, 2, -1}, {0, 1, 2}, {-1, -1, -1}, {math.MaxInt, 0, 1}, {math.MinInt, 0, 1},
		append(star(12), -1), append(star(12), 12), append(star(12), 13), append(path(12), -1), append(path(12), 0), append(path(12), 5), append([]int{-1}, path(12)...),
	}
	for _, n := range []int{13, 14, 15, 24, 25, 100, 256, 257, 268, 5000, 65537, 65548} {
		lists = append(lists, path(n), star(n))
	}
	for n := 1; n <= 12; n++ {
		for _, tree := range [][]int{path(n), star(n), parentsByPlace(codesOfTrees()[n][len(codesOfTrees()[n])/2])} {
			for v := range n {
				wrong := append(extremes, -2, v, v+1, n, n+1, 12, 13, 16, 256, 1<<16, 1<<32, 1<<32+v-1, -1<<32, -1<<32+v-1, 1<<63-2)
				if v > 0 {
					wrong = append(wrong, -1)
				}
				for _, x := range wrong {
					list := slices.Clone(tree)
					list[v] = x
					lists = append(lists, list)
				}
			}
		}
	}
	return lists
}

func TestWrongTrees(t *testing.T) {
	for _, list := range notTrees() {
		text := fmt.Sprintf("%.70s", fmt.Sprint(list))
		if isTree(list) {
			t.Errorf("%s is a tree", text)
		}
		if impl.TreeOk(list) {
			t.Errorf("TreeOk(%s) = true", text)
		}
		if got := impl.TreeCode(list); got != "" {
			t.Errorf("TreeCode(%s) = %q", text, got)
		}
		for _, other := range [][]int{list, nil, {0}, {-1}, {-1, 0}, {-1, 1}, star(max(len(list), 1)), path(max(len(list), 1))} {
			if impl.SameTree(list, other) || impl.SameTree(other, list) {
				t.Errorf("SameTree(%s, %.70s) = %v, the other way round %v", text, fmt.Sprint(other), impl.SameTree(list, other), impl.SameTree(other, list))
			}
		}
		if got := impl.TreeRenamings(list); got != 0 {
			t.Errorf("TreeRenamings(%s) = %d", text, got)
		}
		if got := impl.HeightOf(list); got != -1 {
			t.Errorf("HeightOf(%s) = %d", text, got)
		}
	}
}

// someTrees returns all trees of up to 5 vertices and some of each greater size.
func someTrees() [][]int {
	var trees [][]int
	for n := 1; n <= 5; n++ {
		trees = append(trees, treesOf(n)...)
	}
	for n := 6; n <= 12; n++ {
		codes := codesOfTrees()[n]
		for i := 0; i < len(codes); i += 1 + len(codes)/15 {
			trees = append(trees, otherNumberings(parentsByPlace(codes[i]))...)
		}
	}
	return trees
}

func TestTreeArgumentsAreLeft(t *testing.T) {
	for _, l := range append(someTrees(), notTrees()...) {
		a, storeA := withSpare(l)
		b, storeB := withSpare(l)
		before := slices.Clone(storeA)
		impl.TreeOk(a)
		impl.TreeCode(a)
		impl.SameTree(a, b)
		impl.SameTree(a, a)
		impl.SameTree(path(4), b)
		impl.TreeRenamings(a)
		impl.HeightOf(a)
		if !slices.Equal(storeA, before) || !slices.Equal(storeB, before) {
			t.Errorf("an argument %v, or what is behind it, is changed: %v, %v", l, storeA, storeB)
		}
	}
}

// treeResults returns all results for a tree that are lists of numbers, each of one call.
func treeResults(_ [][]int, tree []int) [][][]int {
	code := impl.TreeCode(tree)
	first, _ := impl.ReadTree(code)
	second, _ := impl.ReadTree(code)
	longer, _ := impl.ReadTree("(()" + code[1:])
	return [][][]int{{first}, {second}, {longer}}
}

func TestTreeResultsAreNew(t *testing.T) {
	for _, tree := range someTrees() {
		checkResultsAreNew(t, nil, tree, treeResults)
	}
}

// TestTreeCodesAreNew overwrites each result up to its capacity: neither another
// one nor a later one may show it.
func TestTreeCodesAreNew(t *testing.T) {
	for n := 1; n <= 7; n++ {
		first, _ := impl.TreeCodes(n)
		second, _ := impl.TreeCodes(n)
		for _, list := range [][]string{first, second} {
			if !slices.Equal(list, codesOfTrees()[n]) {
				t.Fatalf("TreeCodes(%d) = %q, which is no result of its own", n, list)
			}
			whole := list[:cap(list)]
			for i := range whole {
				whole[i] = "changed"
			}
		}
		if later, _ := impl.TreeCodes(n); !slices.Equal(later, codesOfTrees()[n]) {
			t.Fatalf("TreeCodes(%d) = %q after the first ones were changed", n, later)
		}
	}
}

func TestTreeResultsAreAlwaysEqual(t *testing.T) {
	trees := append(someTrees(), nil, []int{0}, path(13))
	checkAlwaysEqual(t, trees, func(tree []int) []any {
		codes, ok := impl.TreeCodes(len(tree))
		read, readOk := impl.ReadTree(impl.TreeCode(tree))
		return []any{
			codes, ok, read, readOk, impl.TreeOk(tree), impl.TreeCode(tree), impl.SameTree(tree, trees[7]), impl.TreeRenamings(tree),
			impl.HeightOf(tree), impl.CountRooted(len(tree)), impl.CountFree(len(tree)),
		}
	})
}
