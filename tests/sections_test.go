package tests

import (
	"math"
	"strings"
	"testing"

	"loop.example/g01168/impl"
)

// Promise 19: sections lead back, and steps follow partners.

func TestSectionsLeadBack(t *testing.T) {
	led := 0
	for _, f := range pairsToChoose(t) {
		section := made(t)(impl.SectionOf(f))
		equal(t, "a section has two partners", someHasTwo(section), false)
		equal(t, "inputs of a section", made(t)(impl.InputsIn(section)), made(t)(impl.OutputsIn(f)))
		back := turnedOver(f)
		for _, w := range wordsUpTo(3) {
			first, some := firstIn(back, w)
			for _, u := range wordsUpTo(4) {
				if takes(section, []string{w, u}) != (some && u == first) {
					t.Fatalf("SectionOf %v: %q and %q", f, w, u)
				}
			}
			if some {
				led++
				equal(t, "the partner of what it leads to", takes(f, []string{first, w}), true)
				isFirstPartner(t, section, w, first, impl.OK)
			}
		}
	}
	if led < 300 {
		t.Errorf("only %d words are led back", led)
	}
	for _, f := range someFunctions(t) {
		section := made(t)(impl.SectionOf(f))
		there := made(t)(impl.ComposeRelations(section, f))
		equal(t, "back and there", there, naiveTidied(t, equalIn(made(t)(impl.OutputsIn(f)))))
	}
}

// naiveTidied numbers the states of a tidy relation that is made by hand.
func naiveTidied(t *testing.T, r impl.Relation) impl.Relation {
	t.Helper()
	return made(t)(impl.TidyRelation(naiveTidy(r)))
}

func TestSectionsOfKnownFunctions(t *testing.T) {
	equal(t, "of the next word", made(t)(impl.SectionOf(impl.SuccessorRelation())), inverseOf(t, impl.SuccessorRelation()))
	equal(t, "of equal words", made(t)(impl.SectionOf(impl.EqualWords())), impl.EqualWords())
	equal(t, "of both letters exchanged", made(t)(impl.SectionOf(flipping())), naiveTidied(t, flipping()))
	equal(t, "of the empty word for all", made(t)(impl.SectionOf(emptying())), onlyPairs(t, []string{"", ""}))
	equal(t, "of first letters", made(t)(impl.SectionOf(keepingFirst())), onlyPairs(t, []string{"a", "a"}, []string{"b", "b"}))
	equal(t, "of nothing", made(t)(impl.SectionOf(nothing(2))), nothing(2))
	equal(t, "of all", made(t)(impl.SectionOf(everything(2))), naiveTidied(t, emptying()))
	equal(t, "of what comes before", made(t)(impl.SectionOf(inverseOf(t, impl.OrderRelation()))), impl.SuccessorRelation())
	equal(t, "too many states for the other way", codeOf(impl.SectionOf(ring(148))), int64(impl.ErrLimit))
	equal(t, "and to choose", codeOf(impl.SectionOf(evenRing(2, 50))), int64(impl.ErrLimit))
	equal(t, "just so many to choose", codeOf(impl.SectionOf(evenRing(2, 49))), codeOf(impl.ChooseFirst(evenRing(2, 49))))
}

func TestWordsWithAPartnerInCommon(t *testing.T) {
	common := map[bool]int{}
	for _, f := range pairsToChoose(t) {
		got := made(t)(impl.SameImageOf(f))
		middle := naiveBoth(f, naiveTurned(f))
		for _, words := range allTuples(2, 2) {
			some, _, _ := takenWith(middle, 1, words)
			common[some]++
			if takes(got, words) != some {
				t.Fatalf("SameImageOf %v: %q", f, words)
			}
		}
		equal(t, "the same turned over", naiveTidied(t, turnedOver(got)), got)
	}
	if common[true] < 500 || common[false] < 500 {
		t.Errorf("%v have a partner in common, so the test tells little", common)
	}
	equal(t, "of one to one", made(t)(impl.SameImageOf(impl.SuccessorRelation())), impl.EqualWords())
	equal(t, "of the empty word for all", made(t)(impl.SameImageOf(emptying())), made(t)(impl.AllTuples(2)))
	equal(t, "of nothing", made(t)(impl.SameImageOf(nothing(2))), nothing(2))
	equal(t, "of the order", made(t)(impl.SameImageOf(impl.OrderRelation())), made(t)(impl.AllTuples(2)))
	equal(t, "of one pair", made(t)(impl.SameImageOf(onlyPairs(t, []string{"a", "ab"}))), onlyPairs(t, []string{"a", "a"}))
	equal(t, "too many states for the other way", codeOf(impl.SameImageOf(ring(148))), int64(impl.ErrLimit))
}

func TestFixedWords(t *testing.T) {
	for _, f := range pairsToChoose(t) {
		got := made(t)(impl.FixedWords(f))
		for _, u := range wordsUpTo(5) {
			if takes(got, []string{u}) != takes(f, []string{u, u}) {
				t.Fatalf("FixedWords of %v: %q", f, u)
			}
		}
	}
	equal(t, "of equal words", made(t)(impl.FixedWords(impl.EqualWords())), everything(1))
	equal(t, "of the next word", made(t)(impl.FixedWords(impl.SuccessorRelation())), nothing(1))
	equal(t, "of all", made(t)(impl.FixedWords(everything(2))), everything(1))
	equal(t, "of nothing", made(t)(impl.FixedWords(nothing(2))), nothing(1))
	equal(t, "of the letters before", made(t)(impl.FixedWords(delaying())), made(t)(impl.TidyRelation(chainsOf("a"))))
	equal(t, "of first letters", made(t)(impl.FixedWords(keepingFirst())), listed(t, []string{"a", "b"}))
	equal(t, "150 states", codeOf(impl.FixedWords(ring(149))), int64(impl.OK))
	equal(t, "151 states", codeOf(impl.FixedWords(ring(150))), int64(impl.ErrLimit))
}

// naiveSteps follows first partners of any length, and tells which error is met first.
func naiveSteps(f impl.Relation, u string, steps int) (string, int64) {
	for range steps {
		w, some := firstIn(f, u)
		if !some {
			return "", impl.ErrNotFound
		}
		if len(w) > impl.MaxWord {
			return "", impl.ErrLimit
		}
		u = w
	}
	return u, impl.OK
}

// naiveCycle looks for the first word that has been there before.
func naiveCycle(f impl.Relation, u string, most int) (before, further, code int64) {
	list := []string{u}
	for len(list) <= most {
		w, code := naiveSteps(f, list[len(list)-1], 1)
		if code != impl.OK {
			return 0, 0, code
		}
		for i, v := range list {
			if v == w {
				return int64(i), int64(len(list) - i), impl.OK
			}
		}
		list = append(list, w)
	}
	return 0, 0, impl.ErrBudget
}

func isApplied(t *testing.T, f impl.Relation, u string, steps int64, want string, code int64) {
	t.Helper()
	w, got := impl.ApplySteps(f, u, steps)
	equal(t, "ApplySteps of "+u, []any{w, got}, []any{want, code})
}

func isCycle(t *testing.T, f impl.Relation, u string, most, before, further, code int64) {
	t.Helper()
	one, two, got := impl.CycleOf(f, u, most)
	equal(t, "CycleOf "+u, []int64{one, two, got}, []int64{before, further, code})
}

func TestStepsFollowPartners(t *testing.T) {
	seen, cycles := map[int64]int{}, map[int64]int{}
	for i, f := range pairsToChoose(t) {
		function := !someHasTwo(f)
		for _, u := range append(wordsUpTo(2), "abab") {
			for steps := range 8 {
				want, code := naiveSteps(f, u, steps)
				before, further, cycled := naiveCycle(f, u, max(steps, 1))
				if !function {
					want, code, before, further, cycled = "", impl.ErrState, 0, 0, impl.ErrState
				}
				isApplied(t, f, u, int64(steps), want, code)
				isCycle(t, f, u, int64(max(steps, 1)), before, further, cycled)
				seen[code]++
				cycles[cycled]++
			}
		}
		if t.Failed() {
			t.Fatalf("in %d: %v", i, f)
		}
	}
	if seen[impl.OK] < 500 || seen[impl.ErrNotFound] < 200 || seen[impl.ErrState] < 500 {
		t.Errorf("codes of steps %v, so the test tells little", seen)
	}
	if cycles[impl.OK] < 300 || cycles[impl.ErrNotFound] < 200 || cycles[impl.ErrBudget] < 300 {
		t.Errorf("codes of cycles %v, so the test tells little", cycles)
	}
}

// Some steps and then some more are as many steps, and those of a composition.
func TestStepsAreAdded(t *testing.T) {
	for _, f := range someFunctions(t) {
		twice := made(t)(impl.ComposeRelations(f, f))
		for _, u := range wordsUpTo(3) {
			for n := range int64(4) {
				middle, code := impl.ApplySteps(f, u, n)
				if code != impl.OK {
					continue
				}
				want, code := impl.ApplySteps(f, middle, n+1)
				isApplied(t, f, u, 2*n+1, want, code)
				want, code = impl.ApplySteps(f, u, 2*n)
				isApplied(t, twice, u, n, want, code)
			}
		}
	}
}

func TestStepsOfKnownFunctions(t *testing.T) {
	next := impl.SuccessorRelation()
	words := wordsUpTo(9)
	for _, n := range []int64{0, 1, 2, 3, 500, impl.MaxApplied - 1, impl.MaxApplied} {
		isApplied(t, next, "", n, words[n], impl.OK)
		isApplied(t, inverseOf(t, next), words[n], n, "", impl.OK)
		isApplied(t, impl.EqualWords(), "abba", n, "abba", impl.OK)
		isApplied(t, flipping(), "abb", n, []string{"abb", "baa"}[n%2], impl.OK)
		isApplied(t, pairsWith(chain(0)), "", n, "", impl.OK)
	}
	isApplied(t, inverseOf(t, next), "b", 3, "", impl.ErrNotFound)
	isApplied(t, lookingAhead(), "abbab", 2, "babaa", impl.OK)
	isApplied(t, delaying(), "abbab", 2, "aaabb", impl.OK)
	isApplied(t, emptying(), "abbab", 7, "", impl.OK)
	isApplied(t, nothing(2), "ab", 0, "ab", impl.OK)
	isApplied(t, nothing(2), "ab", 1, "", impl.ErrNotFound)
	isApplied(t, impl.OrderRelation(), "ab", 0, "", impl.ErrState)
	isCycle(t, impl.EqualWords(), "a", 1, 0, 1, impl.OK)
	isCycle(t, impl.EqualWords(), "", impl.MaxApplied, 0, 1, impl.OK)
	isCycle(t, flipping(), "ab", 2, 0, 2, impl.OK)
	isCycle(t, flipping(), "ab", 1, 0, 0, impl.ErrBudget)
	isCycle(t, flipping(), "", 1, 0, 1, impl.OK)
	isCycle(t, delaying(), "abba", 4, 3, 1, impl.OK)
	isCycle(t, delaying(), "abba", 3, 0, 0, impl.ErrBudget)
	isCycle(t, delaying(), "bbba", 5, 4, 1, impl.OK)
	isCycle(t, delaying(), "bbba", 4, 0, 0, impl.ErrBudget)
	isCycle(t, addingUp(), "b", 1, 0, 1, impl.OK)
	isCycle(t, addingUp(), "baaa", 4, 0, 4, impl.OK)
	isCycle(t, addingUp(), "baaa", 3, 0, 0, impl.ErrBudget)
	isCycle(t, emptying(), "ba", 2, 1, 1, impl.OK)
	isCycle(t, emptying(), "", 2, 0, 1, impl.OK)
	isCycle(t, emptying(), "ba", 1, 0, 0, impl.ErrBudget)
	isCycle(t, next, "", impl.MaxApplied, 0, 0, impl.ErrBudget)
	isCycle(t, nothing(2), "", 1, 0, 0, impl.ErrNotFound)
}

// counting leads each of the first words to the next one, so many times, and then back
// to the word that has so many before it.
func counting(t *testing.T, count, back int64) impl.Relation {
	t.Helper()
	words := wordsUpTo(9)
	next := naivePairs(impl.SuccessorRelation(), naiveAdd(firstWords(count), 1), takesBoth)
	return oneMore(next, words[count], words[back])
}

// A word that comes again is found within just as many steps as are allowed.
func TestLongCycles(t *testing.T) {
	words := wordsUpTo(9)
	for _, c := range []struct{ count, back int64 }{{999, 0}, {999, 1}, {999, 998}, {999, 999}, {998, 500}, {126, 63}, {30, 7}, {20, 0}, {20, 20}, {1, 1}} {
		f := counting(t, c.count, c.back)
		most := c.count + 1
		isCycle(t, f, "", most, c.back, most-c.back, impl.OK)
		isCycle(t, f, "", impl.MaxApplied, c.back, most-c.back, impl.OK)
		isCycle(t, f, "", most-1, 0, 0, impl.ErrBudget)
		isCycle(t, f, words[c.count], most-c.back, 0, most-c.back, impl.OK)
		isApplied(t, f, "", c.count, words[c.count], impl.OK)
		isApplied(t, f, words[c.count], 1, words[c.back], impl.OK)
		around := (impl.MaxApplied - most) % (most - c.back)
		isApplied(t, f, "", impl.MaxApplied, words[c.back+around], impl.OK)
	}
	isCycle(t, counting(t, 1000, 0), "", impl.MaxApplied, 0, 0, impl.ErrBudget)
	isCycle(t, counting(t, 1000, 0), "a", impl.MaxApplied, 0, 0, impl.ErrBudget)
	isCycle(t, counting(t, 1000, 1), "a", impl.MaxApplied, 0, 1000, impl.OK)
	isCycle(t, counting(t, 1000, 1000), words[1000], 1, 0, 1, impl.OK)
	for n := int64(1); n <= 9; n++ {
		u, all := words[1<<n], int64(1)<<n
		isCycle(t, nextDigits(), u, all, 0, all, impl.OK)
		isCycle(t, nextDigits(), u, impl.MaxApplied, 0, all, impl.OK)
		isApplied(t, nextDigits(), u, all, u, impl.OK)
		if all > 2 {
			isCycle(t, nextDigits(), u, all-1, 0, 0, impl.ErrBudget)
		}
	}
	isCycle(t, nextDigits(), strings.Repeat("a", 10), impl.MaxApplied, 0, 0, impl.ErrBudget)
}

// nextDigits adds 1 to a number with a digit for each letter, the lowest one first, and
// forgets what does not fit in.
func nextDigits() impl.Relation {
	const adds, added = 0, 1
	return byLetters([]bool{true, true}, func(state, in, out int64) int64 {
		switch {
		case state == adds && in == 1 && out == 0:
			return adds
		case state == adds && in == 0 && out == 1, state == added && in == out:
			return added
		}
		return -1
	})
}

// Whichever comes first is told: a partner that is missing or too long, a word that
// comes again, or the last step.
func TestWhatComesFirst(t *testing.T) {
	path := onlyPairs(t, []string{"", "a"}, []string{"a", "b"}, []string{"b", "bb"})
	for most := int64(1); most <= 3; most++ {
		isCycle(t, path, "", most, 0, 0, impl.ErrBudget)
		isApplied(t, path, "", most, []string{"", "a", "b", "bb"}[most], impl.OK)
	}
	isCycle(t, path, "", 4, 0, 0, impl.ErrNotFound)
	isCycle(t, path, "", impl.MaxApplied, 0, 0, impl.ErrNotFound)
	isCycle(t, path, "bb", 1, 0, 0, impl.ErrNotFound)
	isCycle(t, path, "ab", 5, 0, 0, impl.ErrNotFound)
	isApplied(t, path, "", 4, "", impl.ErrNotFound)
	isApplied(t, path, "", impl.MaxApplied, "", impl.ErrNotFound)
	// Behind the word that comes again, nothing matters.
	circle := onlyPairs(t, []string{"", "a"}, []string{"a", "b"}, []string{"b", "a"}, []string{"bb", "aa"})
	isCycle(t, circle, "", 3, 1, 2, impl.OK)
	isCycle(t, circle, "", 2, 0, 0, impl.ErrBudget)
	isCycle(t, circle, "bb", 3, 0, 0, impl.ErrNotFound)
	b, a := strings.Repeat("b", impl.MaxWord), strings.Repeat("a", impl.MaxWord)
	next := impl.SuccessorRelation()
	isApplied(t, next, b, 0, b, impl.OK)
	isApplied(t, next, b, 1, "", impl.ErrLimit)
	isApplied(t, next, b[1:], 1, a, impl.OK)
	isApplied(t, next, b[1:]+"a", 1, b, impl.OK)
	isApplied(t, next, b[1:]+"a", 2, "", impl.ErrLimit)
	isApplied(t, next, b[1:]+"a", impl.MaxApplied, "", impl.ErrLimit)
	isCycle(t, next, b, 1, 0, 0, impl.ErrLimit)
	isCycle(t, next, b[1:]+"a", 1, 0, 0, impl.ErrBudget)
	isCycle(t, next, b[1:]+"a", 2, 0, 0, impl.ErrLimit)
	isCycle(t, lengthening(0), "", impl.MaxWord, 0, 0, impl.ErrBudget)
	isCycle(t, lengthening(0), "", impl.MaxWord+1, 0, 0, impl.ErrLimit)
	isApplied(t, lengthening(1), "", impl.MaxWord, b, impl.OK)
	isApplied(t, lengthening(1), "", impl.MaxWord+1, "", impl.ErrLimit)
	// The word that is too long would lead back.
	isCycle(t, backAndForth(), b[1:], 2, 0, 2, impl.OK)
	isCycle(t, backAndForth(), b[1:]+"a", 2, 0, 2, impl.OK)
	isCycle(t, backAndForth(), b, 2, 0, 0, impl.ErrLimit)
	isApplied(t, backAndForth(), b[1:], 2, b[1:], impl.OK)
	isApplied(t, backAndForth(), b, 2, "", impl.ErrLimit)
	isApplied(t, backAndForth(), "", 2, "", impl.ErrNotFound)
}

// backAndForth leads words that end with "b" to those with "a" behind them, and back.
func backAndForth() impl.Relation {
	const open, ready, done, dead = 0, 1, 2, 3
	return madeBy(2, []bool{done: true, dead: false}, func(state int64, digits []int64) int64 {
		switch {
		case state <= ready && digits[0] == digits[1]:
			return digits[0]
		case state == ready && digits[0]+digits[1] == 2 && digits[0] != 1:
			return done
		}
		return dead
	})
}

// No automata are made for steps, not even those of FixTape and of ChooseFirst, so there
// are no limits but that of words.
func TestStepsOfLargeFunctions(t *testing.T) {
	next := made(t)(impl.RestrictFunction(impl.SuccessorRelation(), firstWords(511)))
	f := made(t)(impl.JoinFunctions(next, impl.EqualWords()))
	u := strings.Repeat("ab", impl.MaxWord/2)
	equal(t, "PartnersOf", codeOf(impl.PartnersOf(f, u)), int64(impl.ErrLimit))
	isFirstPartner(t, f, u, "", impl.ErrLimit)
	isApplied(t, f, u, 1, u, impl.OK)
	isApplied(t, f, u, impl.MaxApplied, u, impl.OK)
	isCycle(t, f, u, 1, 0, 1, impl.OK)
	isApplied(t, f, "", impl.MaxApplied, "aaaaaaaaa", impl.OK)
	isCycle(t, f, "", 512, 511, 1, impl.OK)
	isCycle(t, f, "", 511, 0, 0, impl.ErrBudget)
	f = naiveScribeRelation(longScribe(39))
	u = strings.Repeat("a", 39)
	equal(t, "ChooseFirst", codeOf(impl.ChooseFirst(f)), int64(impl.ErrLimit))
	isApplied(t, f, u, 1, "b"+u[1:], impl.OK)
	isApplied(t, f, u+"a", 1, "", impl.ErrNotFound)
	isCycle(t, f, u, 2, 1, 1, impl.OK)
	isCycle(t, f, u, 1, 0, 0, impl.ErrBudget)
	f = twice(148)
	equal(t, "ChooseFirst", codeOf(impl.ChooseFirst(f)), int64(impl.ErrLimit))
	isApplied(t, f, "", 0, "", impl.OK)
	isApplied(t, f, "", 1, "", impl.ErrNotFound)
	f = equalIn(lasso(1, 147))
	isApplied(t, f, "b", impl.MaxApplied, "b", impl.OK)
	isCycle(t, f, "b", 1, 0, 1, impl.OK)
	isCycle(t, f, "ba", 1, 0, 0, impl.ErrNotFound)
	long := strings.Repeat("a", 60)
	for _, c := range []struct {
		r    impl.Relation
		code int64
	}{
		{turning(2, 60), impl.ErrState},
		{turning(2, 150), impl.ErrState},
		{ring(148), impl.ErrState},
		{evenRing(2, 50), impl.ErrState},
		{oneMore(twice(60), long, "b"), impl.ErrState},
		{oneMore(twice(60), "b", long), impl.OK},
		{oneMore(twice(60), long[1:], long), impl.OK},
		{oneMore(twice(60), long, long[1:]), impl.ErrState},
	} {
		equal(t, "ChooseFirst", codeOf(impl.ChooseFirst(c.r)), int64(impl.ErrLimit))
		isApplied(t, c.r, "", 0, "", c.code)
		isApplied(t, c.r, "b", 0, map[int64]string{impl.OK: "b"}[c.code], c.code)
	}
}

func TestErrorsOfSteps(t *testing.T) {
	next, order, one, three := impl.SuccessorRelation(), impl.OrderRelation(), everything(1), everything(3)
	long := strings.Repeat("a", impl.MaxWord+1)
	for _, c := range []struct {
		f              impl.Relation
		u              string
		n              int64
		steps, cycling int64
	}{
		{next, "", 1, impl.OK, impl.ErrBudget},
		{next, "", 0, impl.OK, impl.ErrRange},
		{next, "", -1, impl.ErrRange, impl.ErrRange},
		{next, "", impl.MaxApplied, impl.OK, impl.ErrBudget},
		{next, "", impl.MaxApplied + 1, impl.ErrRange, impl.ErrRange},
		{next, "", math.MinInt64, impl.ErrRange, impl.ErrRange},
		{next, "", math.MaxInt64, impl.ErrRange, impl.ErrRange},
		{next, "c", 1, impl.ErrInvalid, impl.ErrInvalid},
		{next, long, 1, impl.ErrInvalid, impl.ErrInvalid},
		{next, "c", -1, impl.ErrInvalid, impl.ErrInvalid},
		{order, "", 1, impl.ErrState, impl.ErrState},
		{order, "", 0, impl.ErrState, impl.ErrRange},
		{order, "", impl.MaxApplied + 1, impl.ErrRange, impl.ErrRange},
		{order, "A", -1, impl.ErrInvalid, impl.ErrInvalid},
		{one, "a", 1, impl.ErrRange, impl.ErrRange},
		{three, "a", 1, impl.ErrRange, impl.ErrRange},
		{three, "#", 1, impl.ErrInvalid, impl.ErrInvalid},
		{one, "a", -7, impl.ErrRange, impl.ErrRange},
		{impl.Relation{}, "a", -7, impl.ErrInvalid, impl.ErrInvalid},
		{inverseOf(t, order), "", 1, impl.ErrState, impl.ErrState},
		{nothing(2), "", 1, impl.ErrNotFound, impl.ErrNotFound},
		{nothing(2), "", impl.MaxApplied + 1, impl.ErrRange, impl.ErrRange},
	} {
		_, code := impl.ApplySteps(c.f, c.u, c.n)
		equal(t, "ApplySteps", code, c.steps)
		isCycle(t, c.f, c.u, c.n, 0, 0, c.cycling)
	}
}
