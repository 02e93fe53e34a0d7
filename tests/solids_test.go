package tests

import (
	"slices"
	"testing"

	"loop.example/g01041/impl"
)

// A way is one of the 48 ways to carry a cube around 0 to itself: the axis i
// comes to the axis to[i], and is turned round if sign[i] is -1.
type way struct {
	to, sign []int
}

func allWays() []way {
	var ways []way
	for _, to := range permsOf(3) {
		for _, sign := range allLists([]int{-1, 1}, 3) {
			ways = append(ways, way{to, sign})
		}
	}
	return ways
}

func (w way) carry(v [3]int) [3]int {
	var r [3]int
	for i, x := range v {
		r[w.to[i]] = w.sign[i] * x
	}
	return r
}

// onPlaces returns how w carries the indices of places; an element is -1 if it
// carries a place to none of them.
func (w way) onPlaces(places [][3]int) []int {
	var p []int
	for _, v := range places {
		p = append(p, slices.Index(places, w.carry(v)))
	}
	return p
}

// isRotation goes by the determinant.
func (w way) isRotation() bool {
	determinant := w.sign[0] * w.sign[1] * w.sign[2]
	for i := range 3 {
		for j := range i {
			if w.to[j] > w.to[i] {
				determinant = -determinant
			}
		}
	}
	return determinant == 1
}

// solidKind is a kind with where its body and the parts are, and with lists of
// parts that belong together, by which its permutations are known, too.
type solidKind struct {
	label    string
	kind     int
	body     [][3]int
	places   [][3]int
	together [][]int
	order    int
}

func tetraEdgePlaces(faces [][3]int) [][3]int {
	var places [][3]int
	for a := range faces {
		for b := a + 1; b < len(faces); b++ {
			var place [3]int
			for i := range place {
				place[i] = faces[a][i] + faces[b][i]
			}
			places = append(places, place)
		}
	}
	return places
}

func cubeFacePlaces() [][3]int {
	return [][3]int{{0, 0, 1}, {0, 0, -1}, {0, 1, 0}, {0, -1, 0}, {1, 0, 0}, {-1, 0, 0}}
}

func cubeCornerPlaces() [][3]int {
	var places [][3]int
	for i := range 8 {
		places = append(places, [3]int{2*(i%2) - 1, 2*(i/2%2) - 1, 2*(i/4) - 1})
	}
	return places
}

func solidKinds() []solidKind {
	tetra := [][3]int{{-1, -1, -1}, {1, -1, 1}, {-1, 1, 1}, {1, 1, -1}}
	cube := cubeFacePlaces()
	return []solidKind{
		{"the faces of a tetrahedron", impl.SoTetraFaces, tetra, tetra, nil, 12},
		// Together are the edges of each face.
		{"the edges of a tetrahedron", impl.SoTetraEdges, tetra, tetraEdgePlaces(tetra), [][]int{{0, 1, 2}, {0, 3, 4}, {1, 3, 5}, {2, 4, 5}}, 12},
		// Together are the opposite faces.
		{"the faces of a cube", impl.SoCubeFaces, cube, cube, [][]int{{0, 1}, {2, 3}, {4, 5}}, 24},
		// Together are the ends of each edge.
		{"the corners of a cube", impl.SoCubeCorners, cube, cubeCornerPlaces(),
			[][]int{{0, 1}, {2, 3}, {4, 5}, {6, 7}, {0, 2}, {1, 3}, {4, 6}, {5, 7}, {0, 4}, {1, 5}, {2, 6}, {3, 7}}, 24},
	}
}

// group returns the permutations of the parts in ascending order, found without
// impl by where the parts are.
func (s solidKind) group(mirrors bool) [][]int {
	var perms [][]int
	for _, w := range allWays() {
		// A cube has ways that do not carry a tetrahedron in it to itself.
		if (mirrors || w.isRotation()) && !slices.Contains(w.onPlaces(s.body), -1) {
			perms = append(perms, w.onPlaces(s.places))
		}
	}
	slices.SortFunc(perms, slices.Compare)
	return perms
}

// keeps reports whether p carries parts that are together to such ones.
func (s solidKind) keeps(p []int) bool {
	for _, parts := range s.together {
		var to []int
		for _, x := range parts {
			to = append(to, p[x])
		}
		slices.Sort(to)
		if !slices.ContainsFunc(s.together, func(other []int) bool { return slices.Equal(to, other) }) {
			return false
		}
	}
	return true
}

// eachSolid calls check with each kind, without and with reflections, and the
// group found without impl.
func eachSolid(check func(s solidKind, mirrors bool, g [][]int)) {
	for _, s := range solidKinds() {
		check(s, false, s.group(false))
		check(s, true, s.group(true))
	}
}

func TestSolidDegree(t *testing.T) {
	if impl.SoTetraFaces != 1 || impl.SoTetraEdges != 2 || impl.SoCubeFaces != 3 || impl.SoCubeCorners != 4 {
		t.Errorf("the kinds are %d, %d, %d and %d", impl.SoTetraFaces, impl.SoTetraEdges, impl.SoCubeFaces, impl.SoCubeCorners)
	}
	for kind, want := range map[int]int{1: 4, 2: 6, 3: 6, 4: 8} {
		if got := impl.SolidDegree(kind); got != want {
			t.Errorf("SolidDegree(%d) = %d, want %d", kind, got, want)
		}
	}
}

func TestSolidGroup(t *testing.T) {
	eachSolid(func(s solidKind, mirrors bool, g [][]int) {
		got, ok := impl.SolidGroup(s.kind, mirrors)
		if !ok || !equalLists(got, g) {
			t.Errorf("SolidGroup of %s, %v = %v, %v, want %v", s.label, mirrors, got, ok, g)
		}
		order := s.order
		if mirrors {
			order *= 2
		}
		if len(got) != order || !isGroup(got) || !impl.GroupOk(got) || len(got[0]) != impl.SolidDegree(s.kind) {
			t.Errorf("SolidGroup of %s, %v = %v is no group of %d elements", s.label, mirrors, got, order)
		}
	})
}

// TestSolidGroupByParts takes all permutations by which the parts that belong
// together stay together: these are the rotations and reflections.
func TestSolidGroupByParts(t *testing.T) {
	for _, s := range solidKinds() {
		want := slices.DeleteFunc(permsOf(len(s.places)), func(p []int) bool { return !s.keeps(p) })
		slices.SortFunc(want, slices.Compare)
		if got, ok := impl.SolidGroup(s.kind, true); !ok || !equalLists(got, want) {
			t.Errorf("SolidGroup of %s = %v, %v, want %v", s.label, got, ok, want)
		}
	}
}

// TestSolidGroupByTurns puts the groups together from turns and a reflection that
// are written down here.
func TestSolidGroupByTurns(t *testing.T) {
	cases := []struct {
		kind       int
		turns      [][]int
		reflection []int
	}{
		{impl.SoTetraFaces, [][]int{{1, 2, 0, 3}, {0, 2, 3, 1}}, []int{1, 0, 2, 3}},
		{impl.SoTetraEdges, [][]int{cycling(6, []int{0, 3, 1}, []int{2, 4, 5}), cycling(6, []int{0, 1, 2}, []int{3, 5, 4})}, cycling(6, []int{1, 3}, []int{2, 4})},
		{impl.SoCubeFaces, [][]int{cycling(6, []int{2, 4, 3, 5}), cycling(6, []int{0, 2, 1, 3})}, cycling(6, []int{4, 5})},
		{impl.SoCubeCorners, [][]int{cycling(8, []int{0, 1, 3, 2}, []int{4, 5, 7, 6}), cycling(8, []int{0, 2, 6, 4}, []int{1, 3, 7, 5})}, []int{1, 0, 3, 2, 5, 4, 7, 6}},
	}
	for _, c := range cases {
		turns, all := groupOf(t, c.turns...), groupOf(t, append(c.turns, c.reflection)...)
		if got, ok := impl.SolidGroup(c.kind, false); !ok || !equalLists(got, turns) {
			t.Errorf("SolidGroup(%d, false) = %v, %v, want %v", c.kind, got, ok, turns)
		}
		if got, ok := impl.SolidGroup(c.kind, true); !ok || !equalLists(got, all) {
			t.Errorf("SolidGroup(%d, true) = %v, %v, want %v", c.kind, got, ok, all)
		}
	}
}

func TestElementsOfSolidGroup(t *testing.T) {
	cases := []struct {
		kind             int
		p                []int
		rotates, carries bool
	}{
		{impl.SoTetraFaces, []int{0, 1, 2, 3}, true, true},
		{impl.SoTetraFaces, []int{1, 2, 0, 3}, true, true},
		{impl.SoTetraFaces, []int{1, 0, 3, 2}, true, true},
		{impl.SoTetraFaces, []int{1, 0, 2, 3}, false, true},
		{impl.SoTetraFaces, []int{1, 2, 3, 0}, false, true},
		{impl.SoTetraEdges, upTo(6), true, true},
		// The faces 0, 1 and 2 in turn, the faces 0 and 1 and also 2 and 3, the faces 0 and 1, and all in turn.
		{impl.SoTetraEdges, cycling(6, []int{0, 3, 1}, []int{2, 4, 5}), true, true},
		{impl.SoTetraEdges, cycling(6, []int{1, 4}, []int{2, 3}), true, true},
		{impl.SoTetraEdges, cycling(6, []int{1, 3}, []int{2, 4}), false, true},
		{impl.SoTetraEdges, cycling(6, []int{0, 3, 5, 2}, []int{1, 4}), false, true},
		// Opposite edges stay opposite, but the edges of a face do not stay together.
		{impl.SoTetraEdges, cycling(6, []int{0, 5}), false, false},
		{impl.SoTetraEdges, cycling(6, []int{0, 5}, []int{1, 4}, []int{2, 3}), false, false},
		{impl.SoTetraEdges, cycling(6, []int{0, 1}), false, false},
		// Round the vertical line, by a quarter in both directions and by a half.
		{impl.SoCubeFaces, []int{0, 1, 4, 5, 3, 2}, true, true},
		{impl.SoCubeFaces, []int{0, 1, 5, 4, 2, 3}, true, true},
		{impl.SoCubeFaces, []int{0, 1, 3, 2, 5, 4}, true, true},
		// Round other lines.
		{impl.SoCubeFaces, []int{2, 3, 1, 0, 4, 5}, true, true},
		{impl.SoCubeFaces, []int{1, 0, 3, 2, 4, 5}, true, true},
		{impl.SoCubeFaces, []int{2, 3, 4, 5, 0, 1}, true, true},
		{impl.SoCubeFaces, []int{4, 5, 3, 2, 0, 1}, true, true},
		// At planes, and at the middle.
		{impl.SoCubeFaces, []int{1, 0, 2, 3, 4, 5}, false, true},
		{impl.SoCubeFaces, []int{0, 1, 3, 2, 4, 5}, false, true},
		{impl.SoCubeFaces, []int{2, 3, 0, 1, 4, 5}, false, true},
		{impl.SoCubeFaces, []int{1, 0, 3, 2, 5, 4}, false, true},
		{impl.SoCubeFaces, []int{0, 2, 1, 3, 4, 5}, false, false},
		{impl.SoCubeFaces, []int{1, 2, 3, 4, 5, 0}, false, false},
		{impl.SoCubeFaces, []int{2, 4, 3, 5, 0, 1}, false, false},
		{impl.SoCubeCorners, []int{1, 3, 0, 2, 5, 7, 4, 6}, true, true},
		{impl.SoCubeCorners, []int{3, 2, 1, 0, 7, 6, 5, 4}, true, true},
		{impl.SoCubeCorners, []int{0, 2, 4, 6, 1, 3, 5, 7}, true, true},
		{impl.SoCubeCorners, []int{1, 0, 3, 2, 5, 4, 7, 6}, false, true},
		{impl.SoCubeCorners, []int{0, 2, 1, 3, 4, 6, 5, 7}, false, true},
		{impl.SoCubeCorners, []int{7, 6, 5, 4, 3, 2, 1, 0}, false, true},
		{impl.SoCubeCorners, []int{1, 2, 3, 0, 5, 6, 7, 4}, false, false},
		{impl.SoCubeCorners, []int{0, 1, 2, 3, 4, 5, 7, 6}, false, false},
		// Of another kind.
		{impl.SoTetraFaces, upTo(6), false, false},
		{impl.SoCubeFaces, upTo(8), false, false},
		{impl.SoCubeCorners, upTo(6), false, false},
	}
	for _, c := range cases {
		for mirrors, want := range map[bool]bool{false: c.rotates, true: c.carries} {
			g, _ := impl.SolidGroup(c.kind, mirrors)
			if got := impl.HasPerm(g, c.p); got != want {
				t.Errorf("SolidGroup(%d, %v) has %v: %v", c.kind, mirrors, c.p, got)
			}
		}
	}
}

// TestTetraEdgesArePairsOfFaces goes by PairsOf and PairGroup.
func TestTetraEdgesArePairsOfFaces(t *testing.T) {
	if got, want := impl.SolidDegree(impl.SoTetraEdges), len(impl.PairsOf(4)); got != want {
		t.Errorf("SolidDegree(%d) = %d, but there are %d pairs", impl.SoTetraEdges, got, want)
	}
	for _, mirrors := range []bool{false, true} {
		faces, _ := impl.SolidGroup(impl.SoTetraFaces, mirrors)
		want, _ := impl.PairGroup(faces)
		if got, ok := impl.SolidGroup(impl.SoTetraEdges, mirrors); !ok || !equalLists(got, want) {
			t.Errorf("SolidGroup(%d, %v) = %v, %v, want %v", impl.SoTetraEdges, mirrors, got, ok, want)
		}
	}
}

// TestEachPartComesToEach: as many elements carry a part to one part as to any
// other one.
func TestEachPartComesToEach(t *testing.T) {
	eachSolid(func(s solidKind, mirrors bool, g [][]int) {
		n := len(s.places)
		got, _ := impl.SolidGroup(s.kind, mirrors)
		if orbits := impl.OrbitsOf(got); !equalLists(orbits, [][]int{upTo(n)}) {
			t.Errorf("%s, %v, have the orbits %v", s.label, mirrors, orbits)
		}
		counts := make([]int, n*n)
		for _, p := range got {
			for i, x := range p {
				counts[i*n+x]++
			}
		}
		if want := slices.Repeat([]int{len(g) / n}, n*n); !slices.Equal(counts, want) {
			t.Errorf("%s, %v, are carried to one another by %v elements", s.label, mirrors, counts)
		}
	})
}

func TestOppositeFacesStayOpposite(t *testing.T) {
	for _, mirrors := range []bool{false, true} {
		g, _ := impl.SolidGroup(impl.SoCubeFaces, mirrors)
		for _, p := range g {
			for a := range 6 {
				for b := range 6 {
					if impl.AreOpposite(a, b) != impl.AreOpposite(p[a], p[b]) {
						t.Errorf("%v carries the faces %d and %d, opposite: %v, to %d and %d", p, a, b, impl.AreOpposite(a, b), p[a], p[b])
					}
				}
			}
		}
	}
}

// haveCommonEdge reports whether two faces have at least two corners in common;
// equal ones have four.
func haveCommonEdge(a int, b int) bool {
	faces, common := cubeFacePlaces(), 0
	for _, corner := range cubeCornerPlaces() {
		reaches := func(face [3]int) bool {
			return face[0]*corner[0]+face[1]*corner[1]+face[2]*corner[2] == 1
		}
		if reaches(faces[a]) && reaches(faces[b]) {
			common++
		}
	}
	return common >= 2
}

func TestAreOpposite(t *testing.T) {
	opposite := map[[2]int]bool{{0, 1}: true, {1, 0}: true, {2, 3}: true, {3, 2}: true, {4, 5}: true, {5, 4}: true}
	for a := -3; a < 10; a++ {
		for b := -3; b < 10; b++ {
			got := impl.AreOpposite(a, b)
			if got != opposite[[2]int{a, b}] {
				t.Errorf("AreOpposite(%d, %d) = %v", a, b, got)
			}
			if min(a, b) < 0 || max(a, b) > 5 {
				continue
			}
			if want := a != b && !haveCommonEdge(a, b); got != want {
				t.Errorf("AreOpposite(%d, %d) = %v, want %v", a, b, got, want)
			}
		}
	}
	for _, x := range append(extremes, -1, 6) {
		others := append(extremes, 0, 1, 2, 3, 4, 5, 6, 7, x, -x, x+1, x-1, x^1, -1-x)
		for _, y := range others {
			if impl.AreOpposite(x, y) || impl.AreOpposite(y, x) {
				t.Errorf("AreOpposite(%d, %d) = %v, the other way round %v", x, y, impl.AreOpposite(x, y), impl.AreOpposite(y, x))
			}
		}
	}
}

// choose returns in how many ways k of n things can be chosen.
func choose(n int, k int) int {
	ways := 1
	for i := range k {
		ways = ways * (n - i) / (i + 1)
	}
	return ways
}

// solidCounts returns the classical numbers of colorings with 0 to 4 colors.
func solidCounts(kind int, mirrors bool) []int {
	turned := map[int][]int{
		impl.SoTetraFaces: {0, 1, 5, 15, 36}, impl.SoTetraEdges: {0, 1, 12, 87, 416},
		impl.SoCubeFaces: {0, 1, 10, 57, 240}, impl.SoCubeCorners: {0, 1, 23, 333, 2916},
	}
	reflected := map[int][]int{
		impl.SoTetraFaces: {0, 1, 5, 15, 35}, impl.SoTetraEdges: {0, 1, 11, 66, 276},
		impl.SoCubeFaces: {0, 1, 10, 56, 220}, impl.SoCubeCorners: {0, 1, 22, 267, 1996},
	}
	if mirrors {
		return reflected[kind]
	}
	return turned[kind]
}

func TestCountSolid(t *testing.T) {
	eachSolid(func(s solidKind, mirrors bool, g [][]int) {
		for k, want := range solidCounts(s.kind, mirrors) {
			got := impl.CountSolid(s.kind, mirrors, k)
			if got != want {
				t.Errorf("CountSolid of %s, %v, %d = %d, want %d", s.label, mirrors, k, got, want)
			}
			if counted := impl.CountColorings(g, k); got != counted {
				t.Errorf("CountSolid of %s, %v, %d = %d, but the group has %d", s.label, mirrors, k, got, counted)
			}
			// Of more colorings, the list takes too long.
			if power(k, len(s.places)) > 8000 {
				continue
			}
			if listed := len(leastColorings(g, k)); got != listed {
				t.Errorf("CountSolid of %s, %v, %d = %d, but there are %d", s.label, mirrors, k, got, listed)
			}
		}
	})
}

func TestCountSolidByFormulas(t *testing.T) {
	for k := 0; k <= impl.MaxColors; k++ {
		k2, k3, k4, k6, k8 := power(k, 2), power(k, 3), power(k, 4), power(k, 6), power(k, 8)
		cases := []struct {
			kind    int
			mirrors bool
			want    int
		}{
			{impl.SoTetraFaces, false, (k4 + 11*k2) / 12},
			{impl.SoTetraFaces, true, choose(k+3, 4)},
			{impl.SoTetraEdges, false, (k6 + 3*k4 + 8*k2) / 12},
			{impl.SoTetraEdges, true, (k6 + 9*k4 + 14*k2) / 24},
			{impl.SoCubeFaces, false, (k6 + 3*k4 + 12*k3 + 8*k2) / 24},
			// Each of three pairs of faces has one of as many pairs of colors.
			{impl.SoCubeFaces, true, choose(choose(k+1, 2)+2, 3)},
			{impl.SoCubeCorners, false, (k8 + 17*k4 + 6*k2) / 24},
			{impl.SoCubeCorners, true, (k8 + 6*k6 + 21*k4 + 20*k2) / 48},
		}
		for _, c := range cases {
			if got := impl.CountSolid(c.kind, c.mirrors, k); got != c.want {
				t.Errorf("CountSolid(%d, %v, %d) = %d, want %d", c.kind, c.mirrors, k, got, c.want)
			}
		}
	}
}

// handedByDefinition returns the number of pairs of different colorings up to
// turns of which one is a reflection of the other one: each pair is met from both.
func handedByDefinition(s solidKind, k int) int {
	turns := s.group(false)
	reflection := slices.DeleteFunc(s.group(true), func(p []int) bool {
		return slices.ContainsFunc(turns, func(turn []int) bool { return slices.Equal(turn, p) })
	})[0]
	met := 0
	for _, list := range leastColorings(turns, k) {
		if other := imagesOf(turns, carried(reflection, list))[0]; !slices.Equal(other, list) {
			met++
		}
	}
	return met / 2
}

func TestHandedSolids(t *testing.T) {
	table := map[int][]int{
		// The first pair has four colors, each once.
		impl.SoTetraFaces: {0, 0, 0, 0, 1},
		impl.SoTetraEdges: {0, 0, 1, 21, 140},
		impl.SoCubeFaces:  {0, 0, 0, 1, 20},
		// The first pair with two colors has four corners of each.
		impl.SoCubeCorners: {0, 0, 1, 66, 920},
	}
	for _, s := range solidKinds() {
		for k, want := range table[s.kind] {
			got := impl.HandedSolids(s.kind, k)
			if got != want {
				t.Errorf("HandedSolids of %s, %d = %d, want %d", s.label, k, got, want)
			}
			if turned, reflected := impl.CountSolid(s.kind, false, k), impl.CountSolid(s.kind, true, k); got != turned-reflected {
				t.Errorf("HandedSolids of %s, %d = %d, but CountSolid is %d and with reflections %d", s.label, k, got, turned, reflected)
			}
			if power(k, len(s.places)) > 8000 {
				continue
			}
			if found := handedByDefinition(s, k); got != found {
				t.Errorf("HandedSolids of %s, %d = %d, but there are %d", s.label, k, got, found)
			}
		}
	}
}

func TestSolidClasses(t *testing.T) {
	cases := map[int][]impl.Term{
		impl.SoTetraFaces: {{Type: []int{0, 2, 0, 0}, Count: 3}, {Type: []int{1, 0, 1, 0}, Count: 8}, {Type: []int{4, 0, 0, 0}, Count: 1}},
		impl.SoTetraEdges: {{Type: []int{0, 0, 2, 0, 0, 0}, Count: 8}, {Type: []int{2, 2, 0, 0, 0, 0}, Count: 3}, {Type: []int{6, 0, 0, 0, 0, 0}, Count: 1}},
		impl.SoCubeFaces: {
			{Type: []int{0, 0, 2, 0, 0, 0}, Count: 8}, {Type: []int{0, 3, 0, 0, 0, 0}, Count: 6}, {Type: []int{2, 0, 0, 1, 0, 0}, Count: 6},
			{Type: []int{2, 2, 0, 0, 0, 0}, Count: 3}, {Type: []int{6, 0, 0, 0, 0, 0}, Count: 1},
		},
		// Half turns of both kinds have one type.
		impl.SoCubeCorners: {
			{Type: []int{0, 0, 0, 2, 0, 0, 0, 0}, Count: 6}, {Type: []int{0, 4, 0, 0, 0, 0, 0, 0}, Count: 9},
			{Type: []int{2, 0, 2, 0, 0, 0, 0, 0}, Count: 8}, {Type: []int{8, 0, 0, 0, 0, 0, 0, 0}, Count: 1},
		},
	}
	for _, s := range solidKinds() {
		got := impl.SolidClasses(s.kind)
		if !equalTerms(got, cases[s.kind]) {
			t.Errorf("SolidClasses of %s = %v, want %v", s.label, got, cases[s.kind])
		}
		var found []impl.Term
		types, counts := indexByDefinition(s.group(false))
		for i, x := range types {
			found = append(found, impl.Term{Type: x, Count: counts[i]})
		}
		if !equalTerms(got, found) {
			t.Errorf("SolidClasses of %s = %v, found are %v", s.label, got, found)
		}
		if order := impl.IndexOrder(got); order != s.order {
			t.Errorf("SolidClasses of %s = %v has %d elements", s.label, got, order)
		}
	}
}

func TestSolidPatterns(t *testing.T) {
	cases := []struct {
		kind, k int
		want    [][]int
	}{
		{impl.SoTetraFaces, 1, [][]int{{0, 0, 0, 0}}},
		{impl.SoTetraFaces, 2, [][]int{{0, 0, 0, 0}, {0, 0, 0, 1}, {0, 0, 1, 1}, {0, 1, 1, 1}, {1, 1, 1, 1}}},
		{impl.SoTetraEdges, 1, [][]int{{0, 0, 0, 0, 0, 0}}},
		{impl.SoCubeFaces, 1, [][]int{{0, 0, 0, 0, 0, 0}}},
		{impl.SoCubeFaces, 2, [][]int{
			{0, 0, 0, 0, 0, 0}, {0, 0, 0, 0, 0, 1},
			// Two opposite faces, and two others.
			{0, 0, 0, 0, 1, 1}, {0, 0, 0, 1, 0, 1},
			// Three in a row, four in a ring, and three round a corner.
			{0, 0, 0, 1, 1, 1}, {0, 0, 1, 1, 1, 1}, {0, 1, 0, 1, 0, 1},
			{0, 1, 0, 1, 1, 1}, {0, 1, 1, 1, 1, 1}, {1, 1, 1, 1, 1, 1},
		}},
		{impl.SoCubeCorners, 1, [][]int{{0, 0, 0, 0, 0, 0, 0, 0}}},
	}
	for _, c := range cases {
		if got, ok := impl.SolidPatterns(c.kind, c.k); !ok || !equalLists(got, c.want) {
			t.Errorf("SolidPatterns(%d, %d) = %v, %v, want %v", c.kind, c.k, got, ok, c.want)
		}
	}
}

// TestLimitOfSolidPatterns takes all numbers of colors: there are 256, 729, 729
// and 256 colorings with the greatest ones, 4096, 4096 and 6561 with the next ones
// of the last three kinds, and 5 is no number of colors. None has exactly 1024.
func TestLimitOfSolidPatterns(t *testing.T) {
	greatest := map[int]int{impl.SoTetraFaces: 4, impl.SoTetraEdges: 3, impl.SoCubeFaces: 3, impl.SoCubeCorners: 2}
	for _, s := range solidKinds() {
		turns := s.group(false)
		for k := -1; k <= 6; k++ {
			if k < 1 || k > greatest[s.kind] {
				checkNoSolidPatterns(t, s.kind, k)
				continue
			}
			got, ok := impl.SolidPatterns(s.kind, k)
			if !ok || !equalLists(got, leastColorings(turns, k)) {
				t.Errorf("SolidPatterns of %s, %d = %v, %v", s.label, k, got, ok)
			}
			if count := impl.CountSolid(s.kind, false, k); len(got) != count {
				t.Errorf("SolidPatterns of %s, %d has %d elements, counted are %d", s.label, k, len(got), count)
			}
		}
	}
}

func checkNoSolidPatterns(t *testing.T, kind int, k int) {
	t.Helper()
	if got, ok := impl.SolidPatterns(kind, k); ok || len(got) > 0 {
		t.Errorf("SolidPatterns(%d, %d) = %v, %v", kind, k, got, ok)
	}
}

func checkNoSolidCounted(t *testing.T, kind int, k int) {
	t.Helper()
	for _, mirrors := range []bool{false, true} {
		if got := impl.CountSolid(kind, mirrors, k); got != -1 {
			t.Errorf("CountSolid(%d, %v, %d) = %d", kind, mirrors, k, got)
		}
	}
	if got := impl.HandedSolids(kind, k); got != -1 {
		t.Errorf("HandedSolids(%d, %d) = %d", kind, k, got)
	}
	checkNoSolidPatterns(t, kind, k)
}

func TestOtherKindsOfSolids(t *testing.T) {
	for _, kind := range append(extremes, -1, 0, 5, 6, 7, 8, 12, 24, 1<<32+2, 1<<32+3) {
		if got := impl.SolidDegree(kind); got != 0 {
			t.Errorf("SolidDegree(%d) = %d", kind, got)
		}
		for _, mirrors := range []bool{false, true} {
			if got, ok := impl.SolidGroup(kind, mirrors); ok || len(got) > 0 {
				t.Errorf("SolidGroup(%d, %v) = %v, %v", kind, mirrors, got, ok)
			}
		}
		if got := impl.SolidClasses(kind); len(got) > 0 {
			t.Errorf("SolidClasses(%d) = %v", kind, got)
		}
		for k := -2; k <= 6; k++ {
			checkNoSolidCounted(t, kind, k)
		}
		checkNoSolidCounted(t, kind, kind)
	}
}

func TestSolidsWithWrongNumbersOfColors(t *testing.T) {
	for _, k := range append(extremes, -1, 5, 6, 7, 8, 10, 64, 1024) {
		for kind := 1; kind <= 4; kind++ {
			checkNoSolidCounted(t, kind, k)
		}
	}
}

// solidResults returns all results for a kind that are lists, each of one call.
func solidResults(_ [][]int, kinds []int) [][][]int {
	turns, _ := impl.SolidGroup(kinds[0], false)
	all, _ := impl.SolidGroup(kinds[0], true)
	var types [][]int
	for _, x := range impl.SolidClasses(kinds[0]) {
		types = append(types, x.Type)
	}
	results := [][][]int{turns, all, types}
	for k := 1; k <= 4; k++ {
		patterns, _ := impl.SolidPatterns(kinds[0], k)
		results = append(results, patterns)
	}
	return results
}

func TestSolidResultsAreNew(t *testing.T) {
	for kind := 1; kind <= 4; kind++ {
		checkResultsAreNew(t, nil, []int{kind}, solidResults)
		terms, want := impl.SolidClasses(kind), impl.SolidClasses(kind)
		clear(terms[:cap(terms)])
		if got := impl.SolidClasses(kind); !equalTerms(got, want) {
			t.Errorf("SolidClasses(%d) = %v after a first result was changed, before %v", kind, got, want)
		}
	}
}

func TestSolidResultsAreAlwaysEqual(t *testing.T) {
	kinds := [][]int{{1}, {2}, {3}, {4}}
	checkAlwaysEqual(t, slices.Repeat(kinds, 5), func(kinds []int) []any {
		kind := kinds[0]
		return []any{
			solidResults(nil, kinds), impl.SolidClasses(kind), impl.SolidDegree(kind),
			impl.CountSolid(kind, false, 3), impl.CountSolid(kind, true, 3), impl.HandedSolids(kind, 3),
		}
	})
}
