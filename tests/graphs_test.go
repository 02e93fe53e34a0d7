package tests

import (
	"math"
	"math/bits"
	"runtime"
	"slices"
	"testing"

	"loop.example/g01041/impl"
)

// countOfGraphs has at the index n the number of graphs of n vertices; there are
// none of 0 vertices.
var countOfGraphs = []int{0, 1, 2, 8, 64, 1024}

// A sketch says for each two vertices whether there is an edge between them.
type sketch [5][5]bool

// numberedPairs returns the pairs of vertices, found without impl.
func numberedPairs(n int) [][2]int {
	var pairs [][2]int
	for a := range n {
		for b := a + 1; b < n; b++ {
			pairs = append(pairs, [2]int{a, b})
		}
	}
	return pairs
}

func sketchOf(n int, g int) sketch {
	var s sketch
	for i, pair := range numberedPairs(n) {
		edge := g>>i&1 == 1
		s[pair[0]][pair[1]], s[pair[1]][pair[0]] = edge, edge
	}
	return s
}

func (s sketch) number(n int) int {
	g := 0
	for i, pair := range numberedPairs(n) {
		if s[pair[0]][pair[1]] {
			g += 1 << i
		}
	}
	return g
}

func (s sketch) renamed(p []int) sketch {
	var r sketch
	for a, toA := range p {
		for b, toB := range p {
			r[toA][toB] = s[a][b]
		}
	}
	return r
}

// eachGraph calls check with each graph of 1 to 5 vertices and with what the
// permutations of permsOf make of it, in their order, found without impl.
func eachGraph(check func(n int, g int, renamed []int)) {
	for n := 1; n <= 5; n++ {
		perms := permsOf(n)
		for g := range countOfGraphs[n] {
			var renamed []int
			for _, p := range perms {
				renamed = append(renamed, sketchOf(n, g).renamed(p).number(n))
			}
			check(n, g, renamed)
		}
	}
}

// leastGraphs returns for 0 to 5 vertices the least graph of each set of graphs
// that renamings carry to one another.
func leastGraphs() [][]int {
	least := make([][]int, 6)
	eachGraph(func(n int, g int, renamed []int) {
		if g == slices.Min(renamed) {
			least[n] = append(least[n], g)
		}
	})
	return least
}

func factorial(n int) int {
	product := 1
	for i := range n {
		product *= i + 1
	}
	return product
}

func TestGraphOk(t *testing.T) {
	for n := -3; n <= 9; n++ {
		for g := -70; g <= 1100; g++ {
			want := n >= 1 && n <= 5 && g >= 0 && g < countOfGraphs[n]
			if got := impl.GraphOk(n, g); got != want {
				t.Errorf("GraphOk(%d, %d) = %v", n, g, got)
			}
		}
	}
}

func TestHasEdge(t *testing.T) {
	eachGraph(func(n int, g int, _ []int) {
		s := sketchOf(n, g)
		for a := -1; a <= n; a++ {
			for b := -1; b <= n; b++ {
				want := min(a, b) >= 0 && max(a, b) < n && s[a][b]
				if got := impl.HasEdge(n, g, a, b); got != want {
					t.Errorf("HasEdge(%d, %d, %d, %d) = %v", n, g, a, b, got)
				}
			}
		}
	})
}

// TestEdgesAreNumberedByPairsOf takes the graphs with one edge.
func TestEdgesAreNumberedByPairsOf(t *testing.T) {
	for n := 1; n <= 5; n++ {
		pairs := impl.PairsOf(n)
		if 1<<len(pairs) != countOfGraphs[n] {
			t.Errorf("for %d vertices there are %d pairs, but %d graphs", n, len(pairs), countOfGraphs[n])
		}
		for i := range pairs {
			for j, pair := range pairs {
				if got := impl.HasEdge(n, 1<<i, pair[0], pair[1]); got != (i == j) {
					t.Errorf("HasEdge(%d, %d, %d, %d) = %v, but the pair has the index %d", n, 1<<i, pair[0], pair[1], got, j)
				}
			}
		}
	}
}

func TestHasEdgeWithWrongVertices(t *testing.T) {
	for n := 1; n <= 5; n++ {
		all := countOfGraphs[n] - 1
		for _, a := range append(extremes, -1, n, n+1, 5, 6, 10, 64) {
			others := append(upTo(n), a, -a, a-1, a+1, a^1, -1-a)
			for _, b := range append(others, extremes...) {
				if impl.HasEdge(n, all, a, b) || impl.HasEdge(n, all, b, a) {
					t.Errorf("HasEdge(%d, %d, %d, %d) = %v, the other way round %v", n, all, a, b, impl.HasEdge(n, all, a, b), impl.HasEdge(n, all, b, a))
				}
			}
		}
		for a := range n {
			if impl.HasEdge(n, all, a, a) {
				t.Errorf("HasEdge(%d, %d, %d, %d) is true", n, all, a, a)
			}
		}
	}
}

func TestDegreesOf(t *testing.T) {
	cases := []struct {
		n, g int
		want []int
	}{
		{1, 0, []int{0}},
		{2, 0, []int{0, 0}},
		{2, 1, []int{1, 1}},
		{3, 3, []int{2, 1, 1}},
		{3, 4, []int{0, 1, 1}},
		// Edges from the vertex 0 to each other one, and the path 0, 1, 2, 3.
		{4, 7, []int{3, 1, 1, 1}},
		{4, 41, []int{1, 2, 2, 1}},
		{5, 0, []int{0, 0, 0, 0, 0}},
		{5, 512, []int{0, 0, 0, 1, 1}},
		{5, 1023, []int{4, 4, 4, 4, 4}},
	}
	for _, c := range cases {
		if got := impl.DegreesOf(c.n, c.g); !slices.Equal(got, c.want) {
			t.Errorf("DegreesOf(%d, %d) = %v, want %v", c.n, c.g, got, c.want)
		}
	}
	eachGraph(func(n int, g int, _ []int) {
		want := make([]int, n)
		for a, row := range sketchOf(n, g) {
			for _, edge := range row {
				if edge {
					want[a]++
				}
			}
		}
		if got := impl.DegreesOf(n, g); !slices.Equal(got, want) {
			t.Errorf("DegreesOf(%d, %d) = %v, want %v", n, g, got, want)
		}
	})
}

// TestDirectionOfRenameGraph has permutations that are not their own inverses.
func TestDirectionOfRenameGraph(t *testing.T) {
	cases := []struct {
		n, g int
		p    []int
		want int
	}{
		{1, 0, []int{0}, 0},
		{2, 0, []int{1, 0}, 0},
		{2, 1, []int{1, 0}, 1},
		// The edge 0, 1 becomes 1, 2, and back.
		{3, 1, []int{1, 2, 0}, 4},
		{3, 4, []int{2, 0, 1}, 1},
		{3, 1, []int{2, 0, 1}, 2},
		// The edges 0, 1 and 1, 2 become 2, 0 and 0, 3.
		{4, 9, []int{2, 0, 3, 1}, 6},
		{4, 63, []int{1, 2, 3, 0}, 63},
		// All edges at the vertex 0 become all edges at the vertex 3.
		{5, 15, []int{3, 4, 0, 1, 2}, 676},
		{5, 512, []int{1, 2, 3, 4, 0}, 8},
	}
	for _, c := range cases {
		if got, ok := impl.RenameGraph(c.n, c.g, c.p); !ok || got != c.want {
			t.Errorf("RenameGraph(%d, %d, %v) = %d, %v, want %d", c.n, c.g, c.p, got, ok, c.want)
		}
	}
}

func TestRenameGraph(t *testing.T) {
	eachGraph(func(n int, g int, renamed []int) {
		for i, p := range permsOf(n) {
			if got, ok := impl.RenameGraph(n, g, p); !ok || got != renamed[i] {
				t.Errorf("RenameGraph(%d, %d, %v) = %d, %v, want %d", n, g, p, got, ok, renamed[i])
			}
		}
	})
}

func TestEdgesAfterRenameGraph(t *testing.T) {
	for n := 1; n <= 4; n++ {
		for _, p := range permsOf(n) {
			for g := range countOfGraphs[n] {
				r, _ := impl.RenameGraph(n, g, p)
				before, after := impl.DegreesOf(n, g), impl.DegreesOf(n, r)
				for a := range n {
					if before[a] != after[p[a]] {
						t.Errorf("%v carries %d to %d, and degrees from %v to %v", p, g, r, before, after)
					}
					for b := range n {
						if impl.HasEdge(n, g, a, b) != impl.HasEdge(n, r, p[a], p[b]) {
							t.Errorf("%v carries %d to %d, but %d, %d is an edge: %v", p, g, r, a, b, impl.HasEdge(n, g, a, b))
						}
					}
				}
			}
		}
	}
}

func TestRenameGraphAlongWithComposing(t *testing.T) {
	for n := 1; n <= 5; n++ {
		perms := permsOf(n)
		// Of 5 vertices there are too many to take all.
		permStep, graphStep := 1, 1
		if n == 5 {
			permStep, graphStep = 7, 49
		}
		for i := 0; i < len(perms); i += permStep {
			for g := 0; g < countOfGraphs[n]; g += graphStep {
				p := perms[i]
				first, _ := impl.RenameGraph(n, g, p)
				inverse, _ := impl.InversePerm(p)
				if back, ok := impl.RenameGraph(n, first, inverse); !ok || back != g {
					t.Errorf("%v carries %d to %d, which the inverse carries to %d, %v", p, g, first, back, ok)
				}
				for _, q := range perms {
					second, _ := impl.RenameGraph(n, first, q)
					both, _ := impl.ComposePerm(p, q)
					if got, ok := impl.RenameGraph(n, g, both); !ok || got != second {
						t.Errorf("RenameGraph(%d, %d, %v) = %d, %v, but by %v and %v it is %d", n, g, both, got, ok, p, q, second)
					}
				}
			}
		}
	}
}

// colorsOf returns the coloring of the pairs in which an edge has the color 1.
func colorsOf(n int, g int) []int {
	var colors []int
	for i := range numberedPairs(n) {
		colors = append(colors, g>>i&1)
	}
	return colors
}

func TestRenameGraphByPairAction(t *testing.T) {
	for n := 2; n <= 5; n++ {
		step := 1
		if n == 5 {
			step = 5
		}
		for _, p := range permsOf(n) {
			action, _ := impl.PairAction(p)
			for g := 0; g < countOfGraphs[n]; g += step {
				want, _ := impl.ActOn(action, colorsOf(n, g))
				if got, ok := impl.RenameGraph(n, g, p); !ok || !slices.Equal(colorsOf(n, got), want) {
					t.Errorf("RenameGraph(%d, %d, %v) = %d, %v, but the colors of the pairs are %v", n, g, p, got, ok, want)
				}
			}
		}
	}
}

func TestCanonGraph(t *testing.T) {
	cases := map[int][]int{
		1: {0},
		2: {0, 1},
		3: {0, 1, 1, 3, 1, 3, 3, 7},
	}
	for n, list := range cases {
		for g, want := range list {
			if got := impl.CanonGraph(n, g); got != want {
				t.Errorf("CanonGraph(%d, %d) = %d, want %d", n, g, got, want)
			}
		}
	}
	eachGraph(func(n int, g int, renamed []int) {
		got := impl.CanonGraph(n, g)
		if want := slices.Min(renamed); got != want {
			t.Errorf("CanonGraph(%d, %d) = %d, want %d", n, g, got, want)
		}
	})
}

func TestRenamingsKeepCanonGraph(t *testing.T) {
	for n := 1; n <= 4; n++ {
		for g := range countOfGraphs[n] {
			want := impl.CanonGraph(n, g)
			if again := impl.CanonGraph(n, want); again != want {
				t.Errorf("CanonGraph(%d, %d) = %d, and of this one %d", n, g, want, again)
			}
			for _, p := range permsOf(n) {
				r, _ := impl.RenameGraph(n, g, p)
				if got := impl.CanonGraph(n, r); got != want {
					t.Errorf("CanonGraph(%d, %d) = %d, but %v makes %d of it, with %d", n, g, want, p, r, got)
				}
			}
		}
	}
}

// TestSameGraph takes of 5 vertices each 19th graph with one of each set, as there
// are too many pairs.
func TestSameGraph(t *testing.T) {
	least := leastGraphs()
	eachGraph(func(n int, g int, renamed []int) {
		others := upTo(countOfGraphs[n])
		if n == 5 {
			others = append(slices.Clone(renamed[:9]), least[n]...)
		}
		if n == 5 && g%19 != 0 {
			return
		}
		for _, h := range others {
			want := slices.Contains(renamed, h)
			if got := impl.SameGraph(n, g, h); got != want {
				t.Errorf("SameGraph(%d, %d, %d) = %v", n, g, h, got)
			}
		}
	})
}

func TestSameGraphOfFiveVertices(t *testing.T) {
	cases := []struct {
		label string
		g, h  int
		want  bool
	}{
		{"two rings", 665, 358, true},
		{"an edge and another one", 1, 512, true},
		{"two edges with a common vertex and without one", 3, 513, false},
		{"a triangle with two further edges at one and at two vertices", 31, 87, false},
		// These have the same degrees.
		{"a path, and a triangle with an edge beside it", 657, 531, false},
		{"two vertices each with an edge to three others, and a ring with an edge across", 126, 667, false},
	}
	for _, c := range cases {
		if got, back := impl.SameGraph(5, c.g, c.h), impl.SameGraph(5, c.h, c.g); got != c.want || back != c.want {
			t.Errorf("SameGraph(5, %d, %d) = %v, the other way round %v: %s", c.g, c.h, got, back, c.label)
		}
	}
}

func TestCountGraphs(t *testing.T) {
	least := leastGraphs()
	for n, want := range []int{-1, 1, 2, 4, 11, 34, -1, -1, -1} {
		got := impl.CountGraphs(n)
		if got != want {
			t.Errorf("CountGraphs(%d) = %d, want %d", n, got, want)
		}
		if want != -1 && got != len(least[n]) {
			t.Errorf("CountGraphs(%d) = %d, but there are %d", n, got, len(least[n]))
		}
		if list, ok := impl.GraphList(n); ok && got != len(list) {
			t.Errorf("CountGraphs(%d) = %d, but listed are %d", n, got, len(list))
		}
	}
}

// countsWith returns how many graphs there are up to renaming with 0 and more edges.
func countsWith(n int) []int {
	return [][]int{
		nil, {1}, {1, 1}, {1, 1, 1, 1}, {1, 1, 2, 3, 2, 1, 1}, {1, 1, 2, 4, 6, 6, 6, 4, 2, 1, 1},
	}[n]
}

func TestCountGraphsWith(t *testing.T) {
	least := leastGraphs()
	for n := 1; n <= 5; n++ {
		found := make([]int, len(numberedPairs(n))+1)
		for _, g := range least[n] {
			found[bits.OnesCount(uint(g))]++
		}
		if want := countsWith(n); !slices.Equal(found, want) {
			t.Errorf("of %d vertices there are %v, the table has %v", n, found, want)
		}
		sum := 0
		for edges := -12; edges <= 24; edges++ {
			want := 0
			if edges >= 0 && edges < len(found) {
				want = found[edges]
			}
			got := impl.CountGraphsWith(n, edges)
			if got != want {
				t.Errorf("CountGraphsWith(%d, %d) = %d, want %d", n, edges, got, want)
			}
			sum += got
		}
		if count := impl.CountGraphs(n); sum != count {
			t.Errorf("CountGraphs(%d) = %d, but with all numbers of edges there are %d", n, count, sum)
		}
	}
}

func TestCountGraphsWithWrongNumbersOfEdges(t *testing.T) {
	for n := 1; n <= 5; n++ {
		all := len(numberedPairs(n))
		wrong := append(extremes, -1, all+1, all+2, 2*all+1, -all-1, 11, 32, 64, math.MaxInt-all, math.MinInt+all)
		for _, edges := range wrong {
			if got := impl.CountGraphsWith(n, edges); got != 0 {
				t.Errorf("CountGraphsWith(%d, %d) = %d", n, edges, got)
			}
		}
	}
}

// TestCountGraphsByPairGroup: for these numbers of vertices there is a PairGroup.
func TestCountGraphsByPairGroup(t *testing.T) {
	for n := 3; n <= 5; n++ {
		all, _ := impl.SymmetricGroup(n)
		g, _ := impl.PairGroup(all)
		if got, want := impl.CountGraphs(n), impl.CountColorings(g, 2); got != want {
			t.Errorf("CountGraphs(%d) = %d, want %d", n, got, want)
		}
		for edges, want := range impl.TwoColors(g) {
			if got := impl.CountGraphsWith(n, edges); got != want {
				t.Errorf("CountGraphsWith(%d, %d) = %d, want %d", n, edges, got, want)
			}
		}
	}
}

func TestComplementOf(t *testing.T) {
	for _, c := range [][3]int{{1, 0, 0}, {2, 0, 1}, {2, 1, 0}, {3, 1, 6}, {4, 0, 63}, {5, 1023, 0}, {5, 665, 358}} {
		if got, ok := impl.ComplementOf(c[0], c[1]); !ok || got != c[2] {
			t.Errorf("ComplementOf(%d, %d) = %d, %v, want %d", c[0], c[1], got, ok, c[2])
		}
	}
	eachGraph(func(n int, g int, _ []int) {
		s := sketchOf(n, g)
		for a := range n {
			for b := range n {
				s[a][b] = !s[a][b]
			}
		}
		got, ok := impl.ComplementOf(n, g)
		if !ok || got != s.number(n) {
			t.Errorf("ComplementOf(%d, %d) = %d, %v, want %d", n, g, got, ok, s.number(n))
		}
		if back, ok := impl.ComplementOf(n, got); !ok || back != g {
			t.Errorf("ComplementOf(%d, %d) = %d, and of this one %d, %v", n, g, got, back, ok)
		}
	})
}

func TestIsSelfComplementary(t *testing.T) {
	var found [6]int
	eachGraph(func(n int, g int, renamed []int) {
		want := slices.Contains(renamed, countOfGraphs[n]-1-g)
		got := impl.IsSelfComplementary(n, g)
		if got != want {
			t.Errorf("IsSelfComplementary(%d, %d) = %v", n, g, got)
		}
		if !got {
			return
		}
		found[n]++
		if edges, all := bits.OnesCount(uint(g)), len(numberedPairs(n)); 2*edges != all {
			t.Errorf("IsSelfComplementary(%d, %d), but there are %d edges of %d", n, g, edges, all)
		}
	})
	// The paths of 4 vertices; the rings of 5, and the triangles with an edge at each of two vertices.
	if want := [6]int{0, 1, 0, 0, 12, 12 + 60}; found != want {
		t.Errorf("as many graphs are IsSelfComplementary: %v, want %v", found, want)
	}
}

func TestIsSelfComplementaryOfKnownGraphs(t *testing.T) {
	cases := []struct {
		label string
		n, g  int
		want  bool
	}{
		{"one vertex", 1, 0, true},
		{"two vertices without an edge", 2, 0, false},
		{"two vertices with an edge", 2, 1, false},
		{"three vertices with an edge", 3, 1, false},
		{"three vertices with two edges", 3, 3, false},
		{"the path 0, 1, 2, 3", 4, 41, true},
		{"the path 1, 0, 2, 3", 4, 35, true},
		{"three edges at the vertex 0", 4, 7, false},
		{"a triangle and a vertex", 4, 11, false},
		{"the ring 0, 1, 2, 3, 4", 5, 665, true},
		{"the triangle 0, 1, 2 with the edges 0, 3 and 1, 4", 5, 87, true},
		{"the triangle 0, 1, 2 with the edges 0, 3 and 0, 4", 5, 31, false},
		{"the triangle 0, 1, 2 with the path 0, 3, 4", 5, 535, false},
		{"no edges", 5, 0, false},
		{"all edges", 5, 1023, false},
	}
	for _, c := range cases {
		if got := impl.IsSelfComplementary(c.n, c.g); got != c.want {
			t.Errorf("IsSelfComplementary(%d, %d) = %v: %s", c.n, c.g, got, c.label)
		}
	}
}

func TestGraphList(t *testing.T) {
	cases := map[int][]int{
		1: {0},
		2: {0, 1},
		3: {0, 1, 3, 7},
		4: {0, 1, 3, 7, 11, 12, 13, 15, 30, 31, 63},
	}
	least := leastGraphs()
	for n, want := range cases {
		got, ok := impl.GraphList(n)
		if !ok || !slices.Equal(got, want) || !slices.Equal(got, least[n]) {
			t.Errorf("GraphList(%d) = %v, %v, want %v, found are %v", n, got, ok, want, least[n])
		}
		for g := range countOfGraphs[n] {
			if listed := slices.Contains(got, g); listed != (impl.CanonGraph(n, g) == g) {
				t.Errorf("GraphList(%d) has %d: %v, but CanonGraph is %d", n, g, listed, impl.CanonGraph(n, g))
			}
		}
	}
	for _, n := range append(extremes, -1, 0, 5, 6, 7, 8, 1<<32+3) {
		if got, ok := impl.GraphList(n); ok || len(got) > 0 {
			t.Errorf("GraphList(%d) = %v, %v", n, got, ok)
		}
	}
}

func TestRenamingsOf(t *testing.T) {
	eachGraph(func(n int, g int, renamed []int) {
		got := impl.RenamingsOf(n, g)
		keepers := 0
		for _, r := range renamed {
			if r == g {
				keepers++
			}
		}
		if got != keepers {
			t.Errorf("RenamingsOf(%d, %d) = %d, want %d", n, g, got, keepers)
		}
		slices.Sort(renamed)
		if different := len(slices.Compact(renamed)); got*different != factorial(n) {
			t.Errorf("RenamingsOf(%d, %d) = %d, but there are %d different ones", n, g, got, different)
		}
	})
}

// TestRenamingsOfKnownGraphs: the identity alone keeps the one vertex. Of 2 to 5
// vertices there is no such graph.
func TestRenamingsOfKnownGraphs(t *testing.T) {
	cases := []struct {
		label   string
		n, g    int
		keepers int
	}{
		{"one vertex", 1, 0, 1},
		{"two vertices without an edge", 2, 0, 2},
		{"two vertices with an edge", 2, 1, 2},
		{"three vertices with all edges", 3, 7, 6},
		{"three vertices with an edge", 3, 1, 2},
		{"four vertices without edges", 4, 0, 24},
		{"four vertices with all edges", 4, 63, 24},
		{"four vertices with an edge", 4, 1, 4},
		{"two edges without a common vertex", 4, 33, 8},
		{"the ring 0, 1, 2, 3", 4, 45, 8},
		{"the path 0, 1, 2, 3", 4, 41, 2},
		{"three edges at the vertex 0", 4, 7, 6},
		{"a triangle and a vertex", 4, 11, 6},
		{"a triangle with an edge", 4, 15, 2},
		{"all edges but one", 4, 62, 4},
		{"five vertices without edges", 5, 0, 120},
		{"five vertices with all edges", 5, 1023, 120},
		{"the ring 0, 1, 2, 3, 4", 5, 665, 10},
		{"four edges at the vertex 0", 5, 15, 24},
		{"a triangle and an edge beside it", 5, 531, 12},
		{"a triangle with two edges at one vertex", 5, 31, 4},
		{"a triangle with an edge at each of two vertices", 5, 87, 2},
		{"two vertices each with an edge to three others", 5, 126, 12},
	}
	for _, c := range cases {
		if got := impl.RenamingsOf(c.n, c.g); got != c.keepers {
			t.Errorf("RenamingsOf(%d, %d) = %d, want %d: %s", c.n, c.g, got, c.keepers, c.label)
		}
	}
	eachGraph(func(n int, g int, _ []int) {
		if got := impl.RenamingsOf(n, g); (got == 1) != (n == 1) || factorial(n)%max(got, 1) != 0 {
			t.Errorf("RenamingsOf(%d, %d) = %d", n, g, got)
		}
	})
}

// TestAllGraphsAreRenamed: what the renamings make of the listed graphs is all
// that there is.
func TestAllGraphsAreRenamed(t *testing.T) {
	for n := 1; n <= 4; n++ {
		list, _ := impl.GraphList(n)
		sum := 0
		for _, g := range list {
			sum += factorial(n) / max(impl.RenamingsOf(n, g), 1)
		}
		if sum != countOfGraphs[n] {
			t.Errorf("of the graphs of %d vertices, the renamings make %d of %d", n, sum, countOfGraphs[n])
		}
	}
}

// checkNoGraph checks all functions of graphs with one that is not valid.
func checkNoGraph(t *testing.T, n int, g int) {
	t.Helper()
	if impl.GraphOk(n, g) {
		t.Errorf("GraphOk(%d, %d) is true", n, g)
	}
	for a := -1; a <= 6; a++ {
		for b := -1; b <= 6; b++ {
			if impl.HasEdge(n, g, a, b) {
				t.Errorf("HasEdge(%d, %d, %d, %d) is true", n, g, a, b)
			}
		}
	}
	if got := impl.DegreesOf(n, g); len(got) > 0 {
		t.Errorf("DegreesOf(%d, %d) = %v", n, g, got)
	}
	for degree := range 12 {
		if got, ok := impl.RenameGraph(n, g, upTo(degree)); ok || got != 0 {
			t.Errorf("RenameGraph(%d, %d, %v) = %d, %v", n, g, upTo(degree), got, ok)
		}
	}
	if got := impl.CanonGraph(n, g); got != -1 {
		t.Errorf("CanonGraph(%d, %d) = %d", n, g, got)
	}
	for _, h := range append(extremes, g, -g, g+1, g-1, g^1, -1, 0, 1, 7, 63) {
		if impl.SameGraph(n, g, h) || impl.SameGraph(n, h, g) {
			t.Errorf("SameGraph(%d, %d, %d) = %v, the other way round %v", n, g, h, impl.SameGraph(n, g, h), impl.SameGraph(n, h, g))
		}
	}
	if got, ok := impl.ComplementOf(n, g); ok || got != 0 {
		t.Errorf("ComplementOf(%d, %d) = %d, %v", n, g, got, ok)
	}
	if impl.IsSelfComplementary(n, g) {
		t.Errorf("IsSelfComplementary(%d, %d) is true", n, g)
	}
	if got := impl.RenamingsOf(n, g); got != 0 {
		t.Errorf("RenamingsOf(%d, %d) = %d", n, g, got)
	}
}

func TestWrongGraphs(t *testing.T) {
	for n := 1; n <= 5; n++ {
		limit := countOfGraphs[n]
		for _, g := range append(extremes, -1, limit, limit+1, 2*limit, 3*limit-1, 1024, 65536, 65537, 1<<16+limit/2, 1<<32+limit/2, -limit) {
			if g < 0 || g >= limit {
				checkNoGraph(t, n, g)
			}
		}
	}
}

func TestWrongNumbersOfVertices(t *testing.T) {
	for _, n := range append(extremes, -1, 0, 6, 7, 8, 9, 10, 11, 12, 16, 63, 64, 65, 1<<16+3, 1<<31, 1<<32+3, 1<<33+5, 1<<62+2) {
		for _, g := range append(extremes, -1, 0, 1, 2, 3, 7, 11, 63, 1023, 1024, n) {
			checkNoGraph(t, n, g)
		}
		if got := impl.CountGraphs(n); got != -1 {
			t.Errorf("CountGraphs(%d) = %d", n, got)
		}
		for _, edges := range append(extremes, -1, 0, 1, 2, 3, 6, 10, 15, n) {
			if got := impl.CountGraphsWith(n, edges); got != -1 {
				t.Errorf("CountGraphsWith(%d, %d) = %d", n, edges, got)
			}
		}
	}
}

func TestRenameGraphWithWrongPerms(t *testing.T) {
	for n := 1; n <= 5; n++ {
		all := countOfGraphs[n] - 1
		wrong := slices.DeleteFunc(somePerms(), func(p []int) bool { return len(p) == n })
		for _, p := range append(wrong, notPerms()...) {
			for _, g := range []int{0, min(1, all), all} {
				if got, ok := impl.RenameGraph(n, g, p); ok || got != 0 {
					t.Errorf("RenameGraph(%d, %d, %v) = %d, %v", n, g, p, got, ok)
				}
			}
		}
	}
}

func TestGraphArgumentsAreLeft(t *testing.T) {
	for n := -1; n <= 6; n++ {
		for _, l := range append(permsOf(max(n, 0)), notPerms()...) {
			p, store := withSpare(l)
			before := slices.Clone(store)
			impl.RenameGraph(n, 0, p)
			impl.RenameGraph(n, 1, p)
			if !slices.Equal(store, before) {
				t.Errorf("an argument %v, or what is behind it, is changed: %v", l, store)
			}
		}
	}
}

// graphResults returns all results for a number of vertices and a graph that are
// lists, each of one call.
func graphResults(_ [][]int, arguments []int) [][][]int {
	list, _ := impl.GraphList(arguments[0])
	return [][][]int{{impl.DegreesOf(arguments[0], arguments[1])}, {list}}
}

func TestGraphResultsAreNew(t *testing.T) {
	for n := 1; n <= 5; n++ {
		for _, g := range []int{0, countOfGraphs[n] / 2, countOfGraphs[n] - 1} {
			checkResultsAreNew(t, nil, []int{n, g}, graphResults)
		}
	}
}

// TestGraphResultsAreAlwaysEqual takes each graph several times, as goroutines may
// come in another order each time.
func TestGraphResultsAreAlwaysEqual(t *testing.T) {
	var arguments [][]int
	for n := 1; n <= 5; n++ {
		for g := 0; g < countOfGraphs[n]; g += n * n {
			arguments = append(arguments, []int{n, g})
		}
	}
	checkAlwaysEqual(t, slices.Repeat(arguments, 3), func(arguments []int) []any {
		n, g := arguments[0], arguments[1]
		complement, _ := impl.ComplementOf(n, g)
		return []any{
			graphResults(nil, arguments), impl.CanonGraph(n, g), impl.RenamingsOf(n, g), impl.CountGraphs(n),
			impl.CountGraphsWith(n, n), impl.IsSelfComplementary(n, g), impl.SameGraph(n, g, complement),
		}
	})
}

func TestGraphGoroutinesEnd(t *testing.T) {
	before := runtime.NumGoroutine()
	for n := range 8 {
		for g := -1; g <= 65; g++ {
			impl.CanonGraph(n, g)
			impl.SameGraph(n, g, g/2)
			impl.RenamingsOf(n, g)
			impl.IsSelfComplementary(n, g)
		}
		impl.GraphList(n)
		impl.CountGraphs(n)
		impl.CountGraphsWith(n, 1)
	}
	checkGoroutinesEnd(t, before)
}
