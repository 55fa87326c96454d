package tests

import (
	"math"
	"slices"
	"strings"
	"testing"

	"loop.example/g01168/impl"
)

// textsAgainst are those of the document, by the kinds of properties.
var textsAgainst = []string{
	impl.SkReflexive:     "!R0(xx)",
	impl.SkSymmetric:     "(R0(xy)&!R0(yx))",
	impl.SkTransitive:    "((R0(xy)&R0(yz))&!R0(xz))",
	impl.SkAntisymmetric: "((R0(xy)&R0(yx))&!x=y)",
	impl.SkIrreflexive:   "R0(xx)",
	impl.SkTotal:         "((!R0(xy)&!R0(yx))&!x=y)",
	impl.SkFunction:      "((R0(xy)&R0(xz))&!y=z)",
	impl.SkEverywhere:    "!EyR0(xy)",
	impl.SkOnto:          "!EyR0(yx)",
	impl.SkInjective:     "((R0(xz)&R0(yz))&!x=y)",
}

const (
	textOfDense = "AxAy(R0(xy)>Ez(R0(xz)&R0(zy)))"
	firstKind   = int64(impl.SkReflexive)
	lastKind    = int64(impl.SkInjective)
)

// variablesOf is the number of elements that are against a property together.
func variablesOf(kind int64) int {
	switch kind {
	case impl.SkReflexive, impl.SkIrreflexive, impl.SkEverywhere, impl.SkOnto:
		return 1
	case impl.SkSymmetric, impl.SkAntisymmetric, impl.SkTotal:
		return 2
	}
	return 3
}

// against tells whether elements are against a property.
func (g graph) against(pairs impl.Relation, kind int64, w []string) bool {
	x, y, z := w[0], w[(1)%len(w)], w[len(w)-1]
	switch kind {
	case impl.SkReflexive:
		return !g.links(x, x)
	case impl.SkSymmetric:
		return g.links(x, y) && !g.links(y, x)
	case impl.SkTransitive:
		return g.links(x, y) && g.links(y, z) && !g.links(x, z)
	case impl.SkAntisymmetric:
		return x != y && g.links(x, y) && g.links(y, x)
	case impl.SkIrreflexive:
		return g.links(x, x)
	case impl.SkTotal:
		return x != y && !g.links(x, y) && !g.links(y, x)
	case impl.SkFunction:
		return y != z && g.links(x, y) && g.links(x, z)
	case impl.SkEverywhere:
		some, _, _ := takenWith(pairs, 1, []string{x})
		return !some
	case impl.SkOnto:
		some, _, _ := takenWith(pairs, 0, []string{x})
		return !some
	}
	return x != y && g.links(x, z) && g.links(y, z)
}

// tuplesOf are all of some words, in order.
func tuplesOf(words []string, count int) [][]string {
	var list [][]string
	for _, at := range placesFor("xyz"[:count], words) {
		list = append(list, at.words("xyz"[:count]))
	}
	slices.SortFunc(list, inOrder)
	return list
}

func TestExamplesOfChapter4(t *testing.T) {
	all := made(t)(impl.AllTuples(1))
	prefixes := graph{all, impl.IsPrefixRelation()}
	for kind, want := range map[int64]bool{impl.SkReflexive: true, impl.SkTransitive: true, impl.SkAntisymmetric: true, impl.SkTotal: false} {
		hasProperty(t, prefixes, kind, want)
	}
	isAgainst(t, prefixes, impl.SkTotal, []string{"b", "a"})
	equal := lengths(t, impl.RlEqual)
	isKindOf(t, graph{all, equal}, "equivalence")
	onlyA := impl.Relation{Tapes: 1, Accept: []bool{true, false}, Next: [][]int64{{0, 1}, {1, 1}}}
	isToldRelation(t, "Representatives", made(t)(impl.Representatives(all, equal)), impl.OK, onlyA, impl.OK)
	isRepresentative(t, graph{all, equal}, "bb", "aa", impl.OK)
	isKindOf(t, graph{all, impl.OrderRelation()}, "linear")
	isToldRelation(t, "CoverOf", made(t)(impl.CoverOf(all, impl.OrderRelation())), impl.OK, impl.SuccessorRelation(), impl.OK)
	isDistance(t, graph{all, impl.SuccessorRelation()}, "", "b", 5, 2, impl.OK)
}

func hasProperty(t *testing.T, g graph, kind int64, want bool) {
	t.Helper()
	has, code := impl.HasProperty(g.d, g.r, kind)
	equal(t, "HasProperty "+impl.PropertyText(kind), []any{has, code}, []any{want, int64(impl.OK)})
}

func isAgainst(t *testing.T, g graph, kind int64, want []string) {
	t.Helper()
	first, code := impl.FirstAgainst(g.d, g.r, kind)
	equal(t, "FirstAgainst "+impl.PropertyText(kind), []any{first, code}, []any{want, int64(impl.OK)})
}

// isKindOf looks whether a relation is of some kinds, among "equivalence",
// "partial", "linear" and "dense", and of no others. A linear order is a partial
// one, and a dense one both, as the document has it.
func isKindOf(t *testing.T, g graph, kind string) {
	t.Helper()
	a, one := impl.IsEquivalence(g.d, g.r)
	b, two := impl.IsPartialOrder(g.d, g.r)
	c, three := impl.IsLinearOrder(g.d, g.r)
	d, four := impl.IsDenseOrder(g.d, g.r)
	equal(t, "codes", []int64{one, two, three, four}, []int64{0, 0, 0, 0})
	dense := strings.Contains(kind, "dense")
	linear := dense || strings.Contains(kind, "linear")
	partial := linear || strings.Contains(kind, "partial")
	equal(t, "kinds of "+kind, []bool{a, b, c, d}, []bool{strings.Contains(kind, "equivalence"), partial, linear, dense})
}

func TestPropertyText(t *testing.T) {
	for kind := firstKind; kind <= lastKind; kind++ {
		equal(t, "PropertyText", impl.PropertyText(kind), textsAgainst[kind])
		equal(t, "ValidFormula", impl.ValidFormula(prefixes(), impl.PropertyText(kind)), true)
	}
	for _, kind := range []int64{0, -1, lastKind + 1, 100, math.MaxInt64, math.MinInt64} {
		equal(t, "PropertyText", impl.PropertyText(kind), "")
	}
	equal(t, "the number of kinds", lastKind, int64(10))
}

// A property fails at its first answer: at elements that are against it, before
// which none are.
func TestFirstAgainst(t *testing.T) {
	type outcome struct {
		kind int64
		has  bool
	}
	seen := map[outcome]int{}
	for _, g := range smallGraphs(t) {
		pairs := g.pairs()
		for kind := firstKind; kind <= lastKind; kind++ {
			has, code := impl.HasProperty(g.d, g.r, kind)
			first, second := impl.FirstAgainst(g.d, g.r, kind)
			if code == impl.ErrLimit && second == impl.ErrLimit {
				continue
			}
			equal(t, "code of HasProperty", code, int64(impl.OK))
			if has {
				equal(t, "FirstAgainst", []any{len(first), second}, []any{0, int64(impl.ErrNotFound)})
			} else {
				equal(t, "code of FirstAgainst", second, int64(impl.OK))
				equal(t, "number of words", len(first), variablesOf(kind))
				equal(t, "elements", slices.ContainsFunc(first, func(w string) bool { return !g.has(w) }), false)
				equal(t, "elements are against "+textsAgainst[kind], g.against(pairs, kind, first), true)
			}
			for _, words := range tuplesOf(g.elements(2), variablesOf(kind)) {
				if g.against(pairs, kind, words) && (has || inOrder(words, first) < 0) {
					t.Fatalf("%s in %v: %q, but first %q, %v", textsAgainst[kind], g, words, first, has)
				}
			}
			seen[outcome{kind, has}]++
			if t.Failed() {
				t.Fatalf("%s in %v", textsAgainst[kind], g)
			}
		}
	}
	for kind := firstKind; kind <= lastKind; kind++ {
		if seen[outcome{kind, true}] < 20 || seen[outcome{kind, false}] < 20 {
			t.Errorf("%s: %v, so the test tells little", textsAgainst[kind], seen)
		}
	}
}

// Properties, orders and the like are told by formulas, with the limits of these.
func TestPropertiesAsTold(t *testing.T) {
	seen := map[int64]int{}
	for _, g := range someGraphs(t) {
		p := g.presentation()
		for kind := firstKind; kind <= lastKind; kind++ {
			answers, code := impl.AnswersTo(p, textsAgainst[kind])
			empty, _ := impl.IsEmpty(answers)
			has, got := impl.HasProperty(g.d, g.r, kind)
			equal(t, "HasProperty", []any{has, got}, []any{empty && code == impl.OK, code})
			first, code := impl.FirstAnswer(p, textsAgainst[kind])
			words, got := impl.FirstAgainst(g.d, g.r, kind)
			equal(t, "FirstAgainst", []any{words, got}, []any{first, code})
			seen[code]++
		}
		isToldCheck(t, "IsEquivalence", impl.IsEquivalence, g, impl.SkReflexive, impl.SkSymmetric, impl.SkTransitive)
		isToldCheck(t, "IsPartialOrder", impl.IsPartialOrder, g, impl.SkIrreflexive, impl.SkTransitive)
		isToldCheck(t, "IsLinearOrder", impl.IsLinearOrder, g, impl.SkIrreflexive, impl.SkTransitive, impl.SkTotal)
		isDenseAsTold(t, g)
		cover, code := impl.AnswersTo(p, "(R0(xy)&!Ez(R0(xz)&R0(zy)))")
		got, second := impl.CoverOf(g.d, g.r)
		isToldRelation(t, "CoverOf", got, second, cover, code)
		minimal, code := impl.AnswersTo(p, "!EyR0(yx)")
		got, second = impl.MinimalOf(g.d, g.r)
		isToldRelation(t, "MinimalOf", got, second, minimal, code)
		if t.Failed() {
			t.Fatalf("of %v", g)
		}
	}
	if seen[impl.OK] < 200 || seen[impl.ErrNotFound] < 100 || seen[impl.ErrLimit] < 200 {
		t.Errorf("codes %v, so the test tells little", seen)
	}
}

type check func(d, r impl.Relation) (bool, int64)

// isToldCheck compares a check with some properties, all of which are looked at.
func isToldCheck(t *testing.T, name string, is check, g graph, kinds ...int64) bool {
	t.Helper()
	want, code := true, int64(impl.OK)
	for _, kind := range kinds {
		has, next := impl.HasProperty(g.d, g.r, kind)
		want = want && has
		if code == impl.OK {
			code = next
		}
	}
	got, second := is(g.d, g.r)
	equal(t, name, []any{got, second}, []any{want && code == impl.OK, code})
	return got
}

func isDenseAsTold(t *testing.T, g graph) {
	t.Helper()
	linear, code := impl.IsLinearOrder(g.d, g.r)
	dense, second := impl.Decide(g.presentation(), textOfDense)
	if code == impl.OK {
		code = second
	}
	got, second := impl.IsDenseOrder(g.d, g.r)
	equal(t, "IsDenseOrder", []any{got, second}, []any{linear && dense && code == impl.OK, code})
}

// Later properties are looked at also if an earlier one fails.
func TestAllPropertiesAreLookedAt(t *testing.T) {
	none, all := graph{circle(6), nothing(2)}, graph{circle(6), everything(2)}
	for _, c := range []struct {
		g     graph
		is    check
		kinds []int64
	}{
		{none, impl.IsEquivalence, []int64{impl.SkReflexive, impl.SkSymmetric, impl.SkTransitive}},
		{all, impl.IsPartialOrder, []int64{impl.SkIrreflexive, impl.SkTransitive}},
		{all, impl.IsLinearOrder, []int64{impl.SkIrreflexive, impl.SkTransitive}},
		{all, impl.IsDenseOrder, []int64{impl.SkIrreflexive, impl.SkTransitive}},
	} {
		hasProperty(t, c.g, c.kinds[0], false)
		_, code := impl.HasProperty(c.g.d, c.g.r, c.kinds[len(c.kinds)-1])
		equal(t, "the last property", code, int64(impl.ErrLimit))
		is, code := c.is(c.g.d, c.g.r)
		equal(t, "the relation", []any{is, code}, []any{false, int64(impl.ErrLimit)})
	}
	r := relationFrom(t, "relation 2 3 1", "no 2 1 2 0 2 0 1 0", "no 0 1 1 0 0 0 1 1", "yes 1 2 2 1 1 0 2 1")
	linear, code := impl.IsLinearOrder(everything(1), r)
	equal(t, "a linear order", []any{linear, code}, []any{false, int64(impl.OK)})
	dense, code := impl.IsDenseOrder(everything(1), r)
	equal(t, "a dense one", []any{dense, code}, []any{false, int64(impl.ErrLimit)})
}

func TestKindsOfKnownRelations(t *testing.T) {
	all := everything(1)
	proper := made(t)(impl.WithoutRelation(impl.IsPrefixRelation(), impl.EqualWords()))
	one := listed(t, []string{"ab"})
	two := listed(t, []string{"ab", "b"})
	apart := made(t)(impl.BothRelations(asWritten(), lengths(t, impl.RlEqual)))
	sameFirst := madeBy(2, []bool{false, true, false}, func(state int64, digits []int64) int64 {
		if state == 0 && digits[0] == digits[1] {
			return 1
		} else if state == 0 {
			return 2
		}
		return state
	})
	copies := made(t)(impl.BothRelations(inTree(), sameFirst))
	isDecided(t, graph{all, copies}.presentation(), textOfDense, true, impl.OK)
	for _, c := range []struct {
		d, r impl.Relation
		kind string
	}{
		{all, impl.OrderRelation(), "linear"},
		{all, inverseOf(t, impl.OrderRelation()), "linear"},
		{all, asWritten(), "linear"},
		{all, inTree(), "dense"},
		{all, inverseOf(t, inTree()), "dense"},
		{all, copies, "partial"},
		{endingInB(), impl.OrderRelation(), "linear"},
		{chainsOf("a"), inTree(), "linear"},
		{firstWords(5), inTree(), "linear"},
		{all, proper, "partial"},
		{all, apart, "partial"},
		{all, lengths(t, impl.RlLess), "partial"},
		{circle(1), impl.OrderRelation(), "linear"},
		{chainsOf("b"), impl.OrderRelation(), "linear"},
		{chainsOf("b"), proper, "linear"},
		{chainsOf("b"), lengths(t, impl.RlLess), "linear"},
		{all, impl.IsPrefixRelation(), ""},
		{all, lengths(t, impl.RlAtMost), ""},
		{all, impl.SuccessorRelation(), ""},
		{all, nothing(2), "partial"},
		{all, everything(2), "equivalence"},
		{all, impl.EqualWords(), "equivalence"},
		{all, differing(1), ""},
		{all, pairsWith(everything(1)), ""},
		{one, nothing(2), "dense"},
		{one, impl.OrderRelation(), "dense"},
		{one, impl.EqualWords(), "equivalence"},
		{one, impl.SuccessorRelation(), "dense"},
		{two, impl.OrderRelation(), "linear"},
		{two, nothing(2), "partial"},
		{two, impl.IsPrefixRelation(), "equivalence"},
		{two, differing(1), "equivalence"},
		{listed(t, []string{"ab", "bb"}), differing(1), "equivalence"},
		{listed(t, []string{"ab", "bb", "ba"}), differing(1), ""},
		{nothing(1), nothing(2), "equivalence dense"},
		{nothing(1), everything(2), "equivalence dense"},
		{padded(nothing(1)), impl.SuccessorRelation(), "equivalence dense"},
	} {
		isKindOf(t, graph{c.d, c.r}, c.kind)
		if t.Failed() {
			t.Fatalf("%q: %v", c.kind, graph{c.d, c.r})
		}
	}
	for _, r := range equivalences(t) {
		isKindOf(t, graph{all, r}, "equivalence")
	}
}

// Linear orders are partial ones, and dense orders linear ones.
func TestOrdersAreOrders(t *testing.T) {
	seen := 0
	for _, g := range append(smallGraphs(t), largeGraphs()...) {
		partial, one := impl.IsPartialOrder(g.d, g.r)
		linear, two := impl.IsLinearOrder(g.d, g.r)
		dense, _ := impl.IsDenseOrder(g.d, g.r)
		if linear && !(partial && one == impl.OK) || dense && !(linear && two == impl.OK) {
			t.Fatalf("partial %v, linear %v, dense %v: %v", partial, linear, dense, g)
		}
		if !linear {
			continue
		}
		seen++
		opposite, code := impl.IsLinearOrder(g.d, inverseOf(t, g.r))
		equal(t, "the inverse of a linear order", []any{opposite, code}, []any{true, int64(impl.OK)})
	}
	if seen < 20 {
		t.Errorf("only %d linear orders", seen)
	}
}

func TestCoverOfAndMinimalOf(t *testing.T) {
	seen := map[int64]int{}
	for _, g := range smallGraphs(t) {
		pairs := g.pairs()
		between := naiveMove(naiveBoth(pairs, pairs), []int64{0, 2, 1})
		cover, code := impl.CoverOf(g.d, g.r)
		seen[code]++
		if code == impl.ErrLimit {
			continue
		}
		equal(t, "code of CoverOf", code, int64(impl.OK))
		minimal, code := impl.MinimalOf(g.d, g.r)
		equal(t, "code of MinimalOf", code, int64(impl.OK))
		equal(t, "faults", faultOf(cover)+faultOf(minimal), "")
		for _, x := range wordsUpTo(2) {
			below, _, _ := takenWith(pairs, 0, []string{x})
			if takes(minimal, []string{x}) != (g.has(x) && !below) {
				t.Fatalf("MinimalOf %v: %q", g, x)
			}
			for _, y := range wordsUpTo(2) {
				some, _, _ := takenWith(between, 2, []string{x, y})
				if takes(cover, []string{x, y}) != (g.links(x, y) && !some) {
					t.Fatalf("CoverOf %v: %q, %q", g, x, y)
				}
			}
		}
	}
	if seen[impl.OK] < 100 {
		t.Errorf("codes %v, so the test tells little", seen)
	}
}

func TestCoverOfAndMinimalOfKnownRelations(t *testing.T) {
	all, b := everything(1), listed(t, []string{"b", "ab"})
	for _, c := range []struct{ d, r, cover, minimal impl.Relation }{
		{all, impl.OrderRelation(), impl.SuccessorRelation(), listed(t, []string{""})},
		{all, impl.SuccessorRelation(), impl.SuccessorRelation(), listed(t, []string{""})},
		{all, inTree(), nothing(2), nothing(1)},
		{all, impl.EqualWords(), nothing(2), nothing(1)},
		{all, lengths(t, impl.RlLess), nextLengths(t), listed(t, []string{""})},
		{b, impl.OrderRelation(), made(t)(impl.RelationOf(2, [][]string{{"b", "ab"}})), listed(t, []string{"b"})},
		{nothing(1), everything(2), nothing(2), nothing(1)},
		{b, nothing(2), nothing(2), b},
	} {
		isToldRelation(t, "CoverOf", made(t)(impl.CoverOf(c.d, c.r)), impl.OK, c.cover, impl.OK)
		isToldRelation(t, "MinimalOf", made(t)(impl.MinimalOf(c.d, c.r)), impl.OK, c.minimal, impl.OK)
	}
}

// nextLengths is the relation of words of which the second one has one letter more.
func nextLengths(t *testing.T) impl.Relation {
	t.Helper()
	return made(t)(impl.TidyRelation(madeBy(2, []bool{false, true, false}, func(state int64, digits []int64) int64 {
		if state == 0 && digits[0] == 2 {
			return 1
		} else if state == 0 && digits[1] != 2 {
			return 0
		}
		return 2
	})))
}

// The first elements against a property may have MaxWord letters, and no more; it
// fails in any case.
func TestFirstAgainstLimits(t *testing.T) {
	for length, code := range map[int64]int64{impl.MaxWord: impl.OK, impl.MaxWord + 1: impl.ErrLimit} {
		all, last, long := everything(1), chain(length), strings.Repeat("a", int(length))
		for _, c := range []struct {
			g    graph
			kind int64
		}{
			{graph{last, nothing(2)}, impl.SkReflexive},
			{graph{last, everything(2)}, impl.SkIrreflexive},
			{graph{all, naiveAdd(naiveOpposite(last), 1)}, impl.SkEverywhere},
			{graph{all, naiveAdd(naiveOpposite(last), 0)}, impl.SkOnto},
		} {
			hasProperty(t, c.g, c.kind, false)
			first, got := impl.FirstAgainst(c.g.d, c.g.r, c.kind)
			equal(t, "code of "+textsAgainst[c.kind], got, code)
			if code == impl.OK {
				equal(t, "FirstAgainst "+textsAgainst[c.kind], first, []string{long})
			} else {
				equal(t, "FirstAgainst "+textsAgainst[c.kind], len(first), 0)
			}
		}
	}
}

// Pairs with words that are no elements do not matter, if there are not too many
// states.
func TestPairsOfOtherWordsDoNotMatter(t *testing.T) {
	compared := 0
	for i, g := range smallGraphs(t) {
		if i%3 != 0 {
			continue
		}
		outside := naiveOpposite(naivePairs(naiveAdd(g.d, 1), naiveAdd(g.d, 0), takesBoth))
		wider := naiveTidy(naivePairs(g.r, outside, func(p, q bool) bool { return p || q }))
		if len(wider.Next) > impl.MaxStates {
			continue
		}
		one, two := callsOfChapter4(g.d, g.r, g.r, []string{"", "b"}, 3), callsOfChapter4(g.d, wider, wider, []string{"", "b"}, 3)
		for i, c := range one {
			if !c.isLimited() && !two[i].isLimited() {
				equal(t, c.name, c.results, two[i].results)
				compared++
			}
		}
		if t.Failed() {
			t.Fatalf("%v", g)
		}
	}
	if compared < 2000 {
		t.Errorf("only %d calls", compared)
	}
}

func (c call) isLimited() bool { return c.results[len(c.results)-1] == int64(impl.ErrLimit) }

func TestErrorsOfProperties(t *testing.T) {
	few := listed(t, []string{"", "a"})
	kinds := []int64{firstKind, lastKind, 0, -1, lastKind + 1, math.MaxInt64, math.MinInt64}
	for _, kind := range kinds {
		want := int64(impl.ErrRange)
		if kind >= firstKind && kind <= lastKind {
			want = impl.OK
		}
		_, code := impl.HasProperty(few, impl.EqualWords(), kind)
		equal(t, "HasProperty", code, want)
		if want != impl.OK {
			_, code = impl.FirstAgainst(few, impl.EqualWords(), kind)
			equal(t, "FirstAgainst", code, want)
		}
	}
	limited := graph{circle(32), ring(148)}
	for _, c := range []struct {
		d, r impl.Relation
		code int64
	}{
		{limited.d, limited.r, impl.ErrLimit},
		{everything(2), limited.r, impl.ErrRange},
		{everything(3), impl.EqualWords(), impl.ErrRange},
		{limited.d, everything(1), impl.ErrRange},
		{few, everything(3), impl.ErrRange},
		{everything(2), everything(1), impl.ErrRange},
		{impl.Relation{}, everything(1), impl.ErrInvalid},
		{everything(2), impl.Relation{}, impl.ErrInvalid},
	} {
		for _, kind := range kinds {
			want := c.code
			if want == impl.ErrLimit && (kind < firstKind || kind > lastKind) {
				want = impl.ErrRange
			}
			has, one := impl.HasProperty(c.d, c.r, kind)
			first, two := impl.FirstAgainst(c.d, c.r, kind)
			equal(t, "codes", []any{has, one, len(first), two}, []any{false, want, 0, want})
		}
		for _, is := range []check{impl.IsEquivalence, impl.IsPartialOrder, impl.IsLinearOrder, impl.IsDenseOrder, impl.IsLocallyFinite} {
			yes, code := is(c.d, c.r)
			equal(t, "codes", []any{yes, code}, []any{false, c.code})
		}
		for _, make := range []func(d, r impl.Relation) (impl.Relation, int64){impl.CoverOf, impl.MinimalOf, impl.Representatives, impl.KernelOf} {
			got, code := make(c.d, c.r)
			isToldRelation(t, "codes", got, code, impl.Relation{}, c.code)
		}
		count, code := impl.CountClasses(c.d, c.r)
		equal(t, "codes", []any{count, code}, []any{int64(0), c.code})
	}
}
