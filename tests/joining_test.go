package tests

import (
	"testing"

	"loop.example/g01168/impl"
)

// Promise 20: functions are joined and restricted as told.

// isToldPairs looks at what a function has returned, and at short words, for which it
// is told whether they are taken. It returns the code.
func isToldPairs(t *testing.T, name string, got impl.Relation, code int64, w *chooser, want impl.Relation, taken func(words []string) bool) int64 {
	t.Helper()
	isToldChoice(t, name, got, code, w, want)
	for _, words := range allTuples(2, 2) {
		if code == impl.OK && takes(got, words) != taken(words) {
			t.Fatalf("%s: %v and %q", name, got, words)
		}
	}
	return code
}

// joinsAsTold looks at one function joined with another one.
func joinsAsTold(t *testing.T, f, g impl.Relation) int64 {
	t.Helper()
	w := &chooser{}
	want := w.joined(f, g)
	got, code := impl.JoinFunctions(f, g)
	return isToldPairs(t, "JoinFunctions", got, code, w, want, func(words []string) bool {
		return takes(f, words) || takes(g, words) && !hasPartners(f, words[0])
	})
}

func restrictsAsTold(t *testing.T, f, domain impl.Relation) int64 {
	t.Helper()
	w := &chooser{}
	want := w.restricted(f, domain)
	got, code := impl.RestrictFunction(f, domain)
	return isToldPairs(t, "RestrictFunction", got, code, w, want, func(words []string) bool {
		return takes(f, words) && takes(domain, words[:1])
	})
}

func TestJoinFunctions(t *testing.T) {
	seen := map[int64]int{}
	list := append(pairsToChoose(t), largePairs()...)
	for i, f := range list {
		for j := range 3 {
			seen[joinsAsTold(t, f, list[(5*i+17*j+3)%len(list)])]++
		}
		seen[joinsAsTold(t, f, f)]++
	}
	if seen[impl.OK] < 200 || seen[impl.ErrLimit] < 20 {
		t.Errorf("codes %v, so the test tells little", seen)
	}
}

// What is joined of functions is one, and so is what is restricted: each word has the
// partner that it has in one of both.
func TestJoinedFunctionsAreFunctions(t *testing.T) {
	list := someFunctions(t)
	for i, f := range list {
		for j := range 4 {
			g := list[(7*i+11*j+1)%len(list)]
			got := made(t)(impl.JoinFunctions(f, g))
			equal(t, "what is joined has two partners", someHasTwo(got), false)
			for _, u := range wordsUpTo(3) {
				want, some := firstIn(f, u)
				if !some {
					want, some = firstIn(g, u)
				}
				if some {
					isFirstPartner(t, got, u, want, impl.OK)
				} else {
					isFirstPartner(t, got, u, "", impl.ErrNotFound)
				}
			}
			cut := made(t)(impl.RestrictFunction(f, made(t)(impl.OppositeRelation(made(t)(impl.InputsIn(g))))))
			equal(t, "what is restricted has two partners", someHasTwo(cut), false)
			// Both have no inputs in common, so they can be joined in any order.
			equal(t, "the other one joined with the rest", made(t)(impl.JoinFunctions(cut, g)), made(t)(impl.JoinFunctions(g, cut)))
			equal(t, "the same", made(t)(impl.JoinFunctions(g, f)), made(t)(impl.JoinFunctions(g, cut)))
		}
	}
}

func TestRestrictFunction(t *testing.T) {
	seen := map[int64]int{}
	domains := append(someDomains(t), chain(20), circle(31), lasso(0, 74), lasso(1, 74), turning(1, 75))
	for i, f := range append(pairsToChoose(t), largePairs()...) {
		for j, domain := range domains {
			if (i+j)%3 == 0 {
				seen[restrictsAsTold(t, f, domain)]++
			}
		}
	}
	if seen[impl.OK] < 200 || seen[impl.ErrLimit] < 20 {
		t.Errorf("codes %v, so the test tells little", seen)
	}
}

func TestKnownJoinsAndRestrictions(t *testing.T) {
	next, none, same, all := impl.SuccessorRelation(), nothing(2), impl.EqualWords(), everything(1)
	back := inverseOf(t, next)
	for _, f := range someFunctions(t) {
		tidy := naiveTidied(t, f)
		equal(t, "joined with nothing", made(t)(impl.JoinFunctions(f, none)), tidy)
		equal(t, "nothing joined", made(t)(impl.JoinFunctions(none, f)), tidy)
		equal(t, "joined with itself", made(t)(impl.JoinFunctions(f, f)), tidy)
		equal(t, "restricted to all words", made(t)(impl.RestrictFunction(f, all)), tidy)
		equal(t, "restricted to nothing", made(t)(impl.RestrictFunction(f, nothing(1))), none)
		inputs := made(t)(impl.InputsIn(f))
		equal(t, "restricted to what has a partner", made(t)(impl.RestrictFunction(f, inputs)), tidy)
		joined := made(t)(impl.JoinFunctions(f, same))
		yes, code := impl.IsDefinedOn(joined, all)
		equal(t, "joined with equal words, it is defined for all", []any{yes, code}, []any{true, int64(impl.OK)})
	}
	equal(t, "defined for all already", made(t)(impl.JoinFunctions(next, same)), next)
	isFirstPartner(t, made(t)(impl.JoinFunctions(back, same)), "", "", impl.OK)
	isFirstPartner(t, made(t)(impl.JoinFunctions(back, same)), "a", "", impl.OK)
	isFirstPartner(t, made(t)(impl.JoinFunctions(onlyPairs(t, []string{"", "ab"}), flipping())), "", "ab", impl.OK)
	equal(t, "equal words of a domain", made(t)(impl.RestrictFunction(same, evenA())), naiveTidied(t, equalIn(evenA())))
	// The domain is that of first words, and not of their partners.
	equal(t, "of the empty word", made(t)(impl.RestrictFunction(next, chain(0))), onlyPairs(t, []string{"", "a"}))
	equal(t, "with two partners", made(t)(impl.RestrictFunction(impl.IsPrefixRelation(), chain(0))), naiveTidied(t, pairsWith(all)))
}

// A tape that is added has its own limit, also if nothing is left.
func TestLimitsOfJoinsAndRestrictions(t *testing.T) {
	for _, c := range []struct {
		what   string
		domain impl.Relation
		added  int
		code   int64
	}{
		{"150 states with a tape added", lasso(0, 74), 150, impl.OK},
		{"151 states with a tape added", lasso(1, 74), 151, impl.ErrLimit},
		{"152 states with a tape added", turning(1, 75), 152, impl.ErrLimit},
	} {
		equal(t, c.what, tidySize(naiveAdd(c.domain, 1)), c.added)
		equal(t, c.what, codeOf(impl.RestrictFunction(nothing(2), c.domain)), c.code)
		// Of this one, the words that have no partner are the domain.
		f := equalIn(naiveOpposite(c.domain))
		if len(f.Next) > impl.MaxStates {
			t.Fatalf("%s: %d states", c.what, len(f.Next))
		}
		joinsAsTold(t, f, nothing(2))
		small := naiveTidy(turnedOver(pairsWith(naiveOpposite(c.domain))))
		equal(t, c.what, joinsAsTold(t, small, nothing(2)), c.code)
	}
	for _, c := range []struct {
		f, domain impl.Relation
		raw       int
	}{
		{twice(98), lasso(1, 3), 100 * 9},
		{twice(98), lasso(1, 4), 100 * 11},
		{evenRing(2, 124), lasso(0, 3), 125 * 8},
		{evenRing(2, 142), lasso(2, 0), 143 * 7},
	} {
		equal(t, "pairs", tidySize(c.f)*tidySize(naiveAdd(c.domain, 1)), c.raw)
		code := restrictsAsTold(t, c.f, c.domain)
		if c.raw > impl.MaxRaw {
			equal(t, "RestrictFunction", code, int64(impl.ErrLimit))
		}
	}
}
