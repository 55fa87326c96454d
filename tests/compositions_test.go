package tests

import (
	"slices"
	"testing"

	"loop.example/g01168/impl"
)

func takesBoth(p, q bool) bool { return p && q }

// naiveProduct returns both relations with tapes added.
func naiveProduct(r, s impl.Relation) (impl.Relation, impl.Relation) {
	left, right := r, s
	for range s.Tapes {
		left = naiveAdd(left, left.Tapes)
	}
	for range r.Tapes {
		right = naiveAdd(right, 0)
	}
	return left, right
}

// productSize is the number of pairs on the way.
func productSize(left, right impl.Relation) int {
	return tidySize(left) * tidySize(right)
}

func TestProductOf(t *testing.T) {
	seen := map[int64]int{}
	for i, r := range someRelations() {
		for j, s := range someRelations() {
			if r.Tapes+s.Tapes > impl.MaxTapes || (i+2*j)%7 != 0 {
				continue
			}
			left, right := naiveProduct(r, s)
			got, code := impl.ProductOf(r, s)
			seen[code]++
			isMade(t, "ProductOf", got, code, naivePairs(left, right, takesBoth), productSize(left, right))
			for _, words := range allTuples(r.Tapes+s.Tapes, 1) {
				if code == impl.OK && takes(got, words) != (takes(r, words[:r.Tapes]) && takes(s, words[r.Tapes:])) {
					t.Fatalf("ProductOf of %v and %v: %q", r, s, words)
				}
			}
		}
	}
	if seen[impl.OK] < 100 || seen[impl.ErrLimit] < 10 {
		t.Errorf("codes %v, so the test tells little", seen)
	}
}

func TestProductOfLimits(t *testing.T) {
	for _, c := range []struct {
		r, s impl.Relation
		raw  int
		code int64
	}{
		{chain(19), lasso(1, 11), impl.MaxRaw, impl.OK},
		{lasso(1, 11), chain(19), impl.MaxRaw, impl.OK},
		{padded(lasso(1, 11)), padded(chain(19)), impl.MaxRaw, impl.OK},
		{lasso(1, 37), lasso(1, 5), impl.MaxRaw + 1, impl.ErrLimit},
		{lasso(5, 1), lasso(37, 1), impl.MaxRaw + 1, impl.ErrLimit},
		{lasso(0, 74), nothing(1), 150, impl.OK},
		{lasso(1, 74), nothing(1), 151, impl.OK},
		{nothing(1), lasso(1, 74), 151, impl.OK},
		{turning(1, 75), nothing(1), 152, impl.OK},
		{nothing(1), turning(1, 75), 152, impl.OK},
		{turning(1, 75), everything(1), 608, impl.ErrLimit},
		{turning(1, 150), nothing(2), 604, impl.OK},
		{nothing(2), turning(1, 150), 604, impl.OK},
		{turning(2, 150), nothing(1), 902, impl.OK},
		{nothing(1), turning(2, 150), 902, impl.OK},
		{turning(2, 150), everything(1), 902 * 8, impl.ErrLimit},
	} {
		left, right := naiveProduct(c.r, c.s)
		equal(t, "pairs", productSize(left, right), c.raw)
		got, code := impl.ProductOf(c.r, c.s)
		isMade(t, "ProductOf", got, code, naivePairs(left, right, takesBoth), c.raw)
		equal(t, "code", code, c.code)
	}
}

func TestProductOfLimitsOfTheResult(t *testing.T) {
	for _, c := range []struct {
		r, s impl.Relation
		size int
	}{
		{lasso(0, 74), everything(1), impl.MaxStates},
		{everything(1), lasso(0, 74), impl.MaxStates},
		{lasso(1, 9), lasso(0, 14), impl.MaxStates + 1},
		{lasso(0, 14), lasso(1, 9), impl.MaxStates + 1},
	} {
		left, right := naiveProduct(c.r, c.s)
		raw := productSize(left, right)
		got, code := impl.ProductOf(c.r, c.s)
		equal(t, "pairs are few", raw <= impl.MaxRaw, true)
		equal(t, "states", isMade(t, "ProductOf", got, code, naivePairs(left, right, takesBoth), raw), c.size)
	}
}

func TestProductsOfKnownRelations(t *testing.T) {
	even, order := evenA(), impl.OrderRelation()
	equal(t, "with all words", made(t)(impl.ProductOf(even, everything(1))), made(t)(impl.AddTape(even, 1)))
	equal(t, "behind all words", made(t)(impl.ProductOf(everything(1), even)), made(t)(impl.AddTape(even, 0)))
	equal(t, "all words twice", made(t)(impl.ProductOf(everything(1), everything(1))), made(t)(impl.AllTuples(2)))
	equal(t, "with nothing", made(t)(impl.ProductOf(order, nothing(1))), nothing(3))
	one := made(t)(impl.RelationOf(1, [][]string{{"ab"}, {""}}))
	two := made(t)(impl.RelationOf(2, [][]string{{"b", "aab"}}))
	list, _ := impl.TuplesUpTo(made(t)(impl.ProductOf(one, two)), 5)
	want := [][]string{{"", "b", "aab"}, {"ab", "b", "aab"}}
	slices.SortFunc(want, inOrder)
	equal(t, "some tuples", list, want)
}

func TestErrorsOfProductsAndCompositions(t *testing.T) {
	one, two, three := evenA(), evenRing(2, 2), evenRing(3, 2)
	wrong := impl.Relation{Tapes: 2}
	type function = func(r, s impl.Relation) (impl.Relation, int64)
	for _, c := range []struct {
		name string
		f    function
		r, s impl.Relation
		code int64
	}{
		{"ProductOf", impl.ProductOf, one, two, impl.OK},
		{"ProductOf", impl.ProductOf, two, one, impl.OK},
		{"ProductOf", impl.ProductOf, two, two, impl.ErrRange},
		{"ProductOf", impl.ProductOf, one, three, impl.ErrRange},
		{"ProductOf", impl.ProductOf, three, one, impl.ErrRange},
		{"ProductOf", impl.ProductOf, three, wrong, impl.ErrInvalid},
		{"ProductOf", impl.ProductOf, wrong, three, impl.ErrInvalid},
		{"ProductOf", impl.ProductOf, ring(148), ring(148), impl.ErrRange},
		{"ProductOf", impl.ProductOf, ring(148), one, impl.ErrLimit},
		{"ComposeRelations", impl.ComposeRelations, two, two, impl.OK},
		{"ComposeRelations", impl.ComposeRelations, one, two, impl.ErrRange},
		{"ComposeRelations", impl.ComposeRelations, two, one, impl.ErrRange},
		{"ComposeRelations", impl.ComposeRelations, two, three, impl.ErrRange},
		{"ComposeRelations", impl.ComposeRelations, three, three, impl.ErrRange},
		{"ComposeRelations", impl.ComposeRelations, one, wrong, impl.ErrInvalid},
		{"ComposeRelations", impl.ComposeRelations, wrong, three, impl.ErrInvalid},
		{"ComposeRelations", impl.ComposeRelations, ring(148), one, impl.ErrRange},
		{"ComposeRelations", impl.ComposeRelations, ring(148), two, impl.ErrLimit},
		{"ComposeRelations", impl.ComposeRelations, two, ring(148), impl.ErrLimit},
		{"InverseRelation", inverse, two, two, impl.OK},
		{"InverseRelation", inverse, one, two, impl.ErrRange},
		{"InverseRelation", inverse, three, two, impl.ErrRange},
		{"InverseRelation", inverse, wrong, two, impl.ErrInvalid},
		{"InverseRelation", inverse, ring(147), two, impl.OK},
		{"InverseRelation", inverse, ring(148), two, impl.ErrLimit},
	} {
		got, code := c.f(c.r, c.s)
		equal(t, c.name, code, c.code)
		equal(t, c.name, impl.ValidRelation(got), c.code == impl.OK)
		if code != impl.OK {
			equal(t, c.name, got, impl.Relation{})
		}
	}
}

// inverse gives InverseRelation the form of the others.
func inverse(r, _ impl.Relation) (impl.Relation, int64) { return impl.InverseRelation(r) }

func TestInverseRelation(t *testing.T) {
	for _, r := range relationsWithTapes() {
		if r.Tapes != 2 {
			continue
		}
		got, code := impl.InverseRelation(r)
		isMade(t, "InverseRelation", got, code, naiveMove(r, []int64{1, 0}), 0)
		if code != impl.OK {
			continue
		}
		for _, words := range allTuples(2, 3) {
			if takes(got, words) != takes(r, []string{words[1], words[0]}) {
				t.Fatalf("InverseRelation of %v: %q", r, words)
			}
		}
		equal(t, "there and back", made(t)(impl.InverseRelation(got)), made(t)(impl.TidyRelation(r)))
	}
}

// pairRelations are small relations of two tapes, among them known ones.
func pairRelations() []impl.Relation {
	less, _ := impl.LengthRelation(impl.RlLess)
	list := []impl.Relation{impl.EqualWords(), impl.IsPrefixRelation(), less, impl.OrderRelation(), impl.SuccessorRelation(), nothing(2), everything(2), evenRing(2, 3), ring(2), twice(3), lots(2)}
	some, _ := impl.RelationOf(2, [][]string{{"a", "b"}, {"b", ""}, {"", "ab"}, {"ab", "a"}, {"a", "aa"}})
	list = append(list, some)
	d := dice(61)
	for range 8 {
		list = append(list, randomRelation(&d, 2, 1+d.below(3)))
	}
	return list
}

// isComposed compares a composition with the steps of which the document tells.
// It returns the number of the step that fails, or one more than the last one.
func isComposed(t *testing.T, got impl.Relation, code int64, r, s impl.Relation) int {
	t.Helper()
	left, right := naiveAdd(r, 2), naiveAdd(s, 0)
	pairs := naivePairs(left, right, takesBoth)
	if tidySize(left)*tidySize(right) > impl.MaxRaw {
		isLimit(t, "ComposeRelations", got, code)
		return 0
	}
	if tidySize(pairs) > impl.MaxStates {
		isLimit(t, "ComposeRelations", got, code)
		return 1
	}
	sets := naiveSets(naiveTidy(pairs), 1)
	isMade(t, "ComposeRelations", got, code, sets, len(sets.Accept))
	if code != impl.OK {
		return 2
	}
	return 3
}

func TestComposeRelations(t *testing.T) {
	for _, r := range pairRelations() {
		for _, s := range pairRelations() {
			got, code := impl.ComposeRelations(r, s)
			isComposed(t, got, code, r, s)
			if code != impl.OK {
				continue
			}
			middle := naivePairs(naiveAdd(r, 2), naiveAdd(s, 0), takesBoth)
			for _, words := range allTuples(2, 2) {
				if some, _, _ := takenWith(middle, 1, words); takes(got, words) != some {
					t.Fatalf("ComposeRelations of %v and %v: %q", r, s, words)
				}
			}
		}
	}
}

func TestCompositionIsAssociative(t *testing.T) {
	compared := 0
	list := pairRelations()
	for i, r := range list {
		for j, s := range list {
			for k, u := range list {
				if (i+3*j+5*k)%4 != 0 {
					continue
				}
				rs, one := impl.ComposeRelations(r, s)
				su, two := impl.ComposeRelations(s, u)
				if one != impl.OK || two != impl.OK {
					continue
				}
				left, one := impl.ComposeRelations(rs, u)
				right, two := impl.ComposeRelations(r, su)
				if one != impl.OK || two != impl.OK {
					continue
				}
				compared++
				if !impl.SameRelation(left, right) {
					t.Fatalf("composition of %v, %v and %v", r, s, u)
				}
			}
		}
	}
	if compared < 500 {
		t.Errorf("only %d have been compared", compared)
	}
}

func TestCompositionsOfKnownRelations(t *testing.T) {
	equalWords, prefix, order, next := impl.EqualWords(), impl.IsPrefixRelation(), impl.OrderRelation(), impl.SuccessorRelation()
	for _, r := range pairRelations() {
		tidy := made(t)(impl.TidyRelation(r))
		equal(t, "equal words first", made(t)(impl.ComposeRelations(equalWords, r)), tidy)
		equal(t, "equal words behind", made(t)(impl.ComposeRelations(r, equalWords)), tidy)
		equal(t, "nothing first", made(t)(impl.ComposeRelations(nothing(2), r)), nothing(2))
	}
	equal(t, "prefixes of prefixes", made(t)(impl.ComposeRelations(prefix, prefix)), prefix)
	equal(t, "next or later", made(t)(impl.EitherRelation(next, made(t)(impl.ComposeRelations(order, next)))), order)
	back := made(t)(impl.InverseRelation(next))
	equal(t, "next and back", made(t)(impl.ComposeRelations(next, back)), equalWords)
}

// equalIn returns the pairs of each word of a relation with itself.
func equalIn(r impl.Relation) impl.Relation {
	return naiveSame(naiveAdd(r, 1), 0, 1)
}

func TestLimitsOfCompositions(t *testing.T) {
	for _, c := range []struct {
		r, s impl.Relation
		raw  int
	}{
		{twice(19), equalIn(lasso(1, 11)), impl.MaxRaw},
		{equalIn(lasso(1, 11)), twice(19), impl.MaxRaw},
		{equalIn(lasso(61, 1)), evenRing(2, 3), impl.MaxRaw},
		{equalIn(lasso(12, 1)), equalIn(lasso(18, 1)), 27 * 39},
		{equalIn(lasso(1, 37)), equalIn(lasso(1, 5)), impl.MaxRaw + 1},
		{equalIn(lasso(5, 1)), equalIn(lasso(37, 1)), impl.MaxRaw + 1},
	} {
		equal(t, "pairs", tidySize(naiveAdd(c.r, 2))*tidySize(naiveAdd(c.s, 0)), c.raw)
		got, code := impl.ComposeRelations(c.r, c.s)
		isComposed(t, got, code, c.r, c.s)
		equal(t, "code", code == impl.OK, c.raw <= impl.MaxRaw)
	}
	seen := map[int]int{}
	for n := int64(1); n <= 30; n += 3 {
		for _, r := range []impl.Relation{evenRing(2, n), twice(n), lots(n), ring(n)} {
			for _, s := range []impl.Relation{evenRing(2, 5), ring(7), lots(3), evenRing(2, 74), evenRing(2, 75)} {
				got, code := impl.ComposeRelations(r, s)
				seen[isComposed(t, got, code, r, s)]++
			}
		}
	}
	for _, r := range []impl.Relation{turning(2, 25), turning(2, 30), turning(2, 142), turning(2, 143), ring(148), evenRing(2, 60), counted(5, 12, 13), branches(7, 31, 32)} {
		for _, s := range []impl.Relation{nothing(2), impl.EqualWords(), everything(2), naiveMove(branches(7, 31, 32), []int64{1, 0})} {
			got, code := impl.ComposeRelations(r, s)
			seen[isComposed(t, got, code, r, s)]++
			got, code = impl.ComposeRelations(s, r)
			seen[isComposed(t, got, code, s, r)]++
		}
	}
	for _, at := range []int{0, 1, 3} {
		equal(t, "this step has failed, or none", seen[at] > 0, true)
	}
}
