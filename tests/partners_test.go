package tests

import (
	"math"
	"slices"
	"strings"
	"testing"

	"loop.example/g01168/impl"
)

// Promise 18: what is chosen is a function with first partners.

func isFirstPartner(t *testing.T, r impl.Relation, u, want string, code int64) {
	t.Helper()
	w, got := impl.FirstPartner(r, u)
	equal(t, "FirstPartner of "+u, []any{w, got}, []any{want, code})
}

func isListOfPartners(t *testing.T, r impl.Relation, u string, length int64, want []string, code int64) {
	t.Helper()
	list, got := impl.PartnersUpTo(r, u, length)
	equal(t, "code of PartnersUpTo "+u, got, code)
	if !slices.Equal(list, want) {
		t.Fatalf("PartnersUpTo %q and %d: %q, want %q", u, length, list, want)
	}
}

// hasThePartners looks at all partners of a word, the first one, and a list of them.
func hasThePartners(t *testing.T, r impl.Relation, u string) {
	t.Helper()
	w := &chooser{}
	want := w.fixed(r, u)
	got, code := impl.PartnersOf(r, u)
	isToldChoice(t, "PartnersOf", got, code, w, want)
	fixed, same := impl.FixTape(r, 0, u)
	isToldRelation(t, "PartnersOf", got, code, fixed, same)
	first, some := firstIn(r, u)
	switch {
	case !some:
		isFirstPartner(t, r, u, "", impl.ErrNotFound)
	case w.limited:
		isFirstPartner(t, r, u, "", impl.ErrLimit)
	default:
		isFirstPartner(t, r, u, first, impl.OK)
	}
	if w.limited {
		isListOfPartners(t, r, u, 4, nil, impl.ErrLimit)
		return
	}
	isListOfPartners(t, r, u, 4, partnersIn(r, u, 4), impl.OK)
	for _, v := range wordsUpTo(4) {
		equal(t, "PartnersOf "+u+" takes "+v, takes(got, []string{v}), takes(r, []string{u, v}))
	}
}

func TestPartners(t *testing.T) {
	for i, r := range pairsToChoose(t) {
		for j, u := range append(wordsUpTo(3), "abab", "bbbab") {
			if (i+j)%2 == 0 || len(u) < 2 {
				hasThePartners(t, r, u)
			}
		}
		if t.Failed() {
			t.Fatalf("in %v", r)
		}
	}
	for _, r := range largePairs() {
		for _, u := range []string{"", "ab", strings.Repeat("ab", 6), strings.Repeat("a", impl.MaxWord)} {
			w := &chooser{}
			want := w.fixed(r, u)
			got, code := impl.PartnersOf(r, u)
			isToldChoice(t, "PartnersOf", got, code, w, want)
		}
	}
}

func TestPartnersOfKnownRelations(t *testing.T) {
	order, next, long := impl.OrderRelation(), impl.SuccessorRelation(), strings.Repeat("b", impl.MaxWord)
	isListOfPartners(t, order, "b", 2, []string{"aa", "ab", "ba", "bb"}, impl.OK)
	isListOfPartners(t, inverseOf(t, order), "ba", 3, []string{"", "a", "b", "aa", "ab"}, impl.OK)
	isListOfPartners(t, impl.IsPrefixRelation(), "ab", 3, []string{"ab", "aba", "abb"}, impl.OK)
	isListOfPartners(t, everything(2), "bab", 1, []string{"", "a", "b"}, impl.OK)
	isListOfPartners(t, nothing(2), "bab", impl.MaxLength, nil, impl.OK)
	isListOfPartners(t, next, "bbb", 3, nil, impl.OK)
	isListOfPartners(t, next, "bbb", 4, []string{"aaaa"}, impl.OK)
	isFirstPartner(t, order, "", "a", impl.OK)
	isFirstPartner(t, order, "abb", "baa", impl.OK)
	isFirstPartner(t, order, "bb", "aaa", impl.OK)
	isFirstPartner(t, next, "b", "aa", impl.OK)
	isFirstPartner(t, everything(2), long, "", impl.OK)
	isFirstPartner(t, lengths(t, impl.RlEqual), long, strings.Repeat("a", impl.MaxWord), impl.OK)
	isFirstPartner(t, nothing(2), "", "", impl.ErrNotFound)
	isFirstPartner(t, inverseOf(t, next), "", "", impl.ErrNotFound)
	isFirstPartner(t, equalIn(evenA()), "a", "", impl.ErrNotFound)
	isFirstPartner(t, equalIn(evenA()), "aa", "aa", impl.OK)
	// A shorter word comes first, whatever its letters are.
	isFirstPartner(t, onlyPairs(t, []string{"a", "ab"}, []string{"a", "b"}), "a", "b", impl.OK)
	isFirstPartner(t, onlyPairs(t, []string{"abba", "aaaaa"}, []string{"abba", "ba"}, []string{"abba", "bb"}), "abba", "ba", impl.OK)
}

// Partners of the empty word alone, so that their number and lengths are known.
func TestLimitsOfPartners(t *testing.T) {
	isFirstPartner(t, pairsWith(chain(impl.MaxWord)), "", strings.Repeat("a", impl.MaxWord), impl.OK)
	isFirstPartner(t, pairsWith(chain(impl.MaxWord+1)), "", "", impl.ErrLimit)
	isFirstPartner(t, pairsWith(chain(100)), "", "", impl.ErrLimit)
	isFirstPartner(t, pairsWith(chain(100)), "a", "", impl.ErrNotFound)
	for letter := range int64(2) {
		u, last := strings.Repeat("ab", impl.MaxWord/2), "ab"[letter:letter+1]
		isFirstPartner(t, lengthening(letter), u[1:], u[1:]+last, impl.OK)
		isFirstPartner(t, lengthening(letter), u, "", impl.ErrLimit)
		isListOfPartners(t, lengthening(letter), u, impl.MaxLength, nil, impl.OK)
	}
	b := strings.Repeat("b", impl.MaxWord)
	isFirstPartner(t, impl.SuccessorRelation(), b[1:], strings.Repeat("a", impl.MaxWord), impl.OK)
	isFirstPartner(t, impl.SuccessorRelation(), b, "", impl.ErrLimit)
	isFirstPartner(t, impl.OrderRelation(), b, "", impl.ErrLimit)
	few, many := pairsWith(firstWords(impl.MaxListed)), pairsWith(firstWords(impl.MaxListed+1))
	isListOfPartners(t, few, "", impl.MaxLength, wordsUpTo(8)[:impl.MaxListed], impl.OK)
	isListOfPartners(t, few, "", 8, wordsUpTo(8)[:impl.MaxListed], impl.OK)
	isListOfPartners(t, few, "", 7, wordsUpTo(7), impl.OK)
	isListOfPartners(t, many, "", 8, nil, impl.ErrLimit)
	isListOfPartners(t, many, "", 7, wordsUpTo(7), impl.OK)
	isListOfPartners(t, many, "a", 8, nil, impl.OK)
	isListOfPartners(t, pairsWith(chain(impl.MaxLength)), "", impl.MaxLength, []string{strings.Repeat("a", impl.MaxLength)}, impl.OK)
	isListOfPartners(t, pairsWith(chain(impl.MaxLength+1)), "", impl.MaxLength, nil, impl.OK)
	for _, length := range []int64{-1, impl.MaxLength + 1, math.MinInt64, math.MaxInt64} {
		isListOfPartners(t, many, "", length, nil, impl.ErrRange)
		isListOfPartners(t, nothing(2), "c", length, nil, impl.ErrInvalid)
	}
}

// ErrLimit of FixTape is the last error: it is told if there is a partner, and if the
// length is right.
func TestLimitsOfFixedWords(t *testing.T) {
	a := func(n int) string { return strings.Repeat("a", n) }
	for _, c := range []struct {
		r     impl.Relation
		u     string
		raw   int
		first string
		code  int64
	}{
		{ring(22), a(39), impl.MaxRaw, "", impl.OK},
		{ring(22), a(40), impl.MaxRaw + 25, "", impl.ErrLimit},
		{ring(88), a(10), impl.MaxRaw + 1, "", impl.ErrLimit},
		{twice(38), a(24), impl.MaxRaw, "", impl.ErrNotFound},
		{twice(38), a(25), impl.MaxRaw + 40, "", impl.ErrNotFound},
		{twice(38), a(38), 40 * 39, "", impl.ErrLimit},
		{twice(22), a(22), 24 * 23, a(22), impl.OK},
		{turning(2, 60), "", 181, "", impl.OK},
		{turning(2, 150), a(2), 1353, "", impl.ErrLimit},
		{padded(pairsWith(chain(60))), a(20), 62 * 21, "", impl.ErrNotFound},
		{pairsWith(chain(60)), "", 62, "", impl.ErrLimit},
	} {
		equal(t, "states", tidySize(c.r)*(len(c.u)+1), c.raw)
		isFirstPartner(t, c.r, c.u, c.first, c.code)
		want := int64(impl.OK)
		if c.raw > impl.MaxRaw {
			want = impl.ErrLimit
		}
		equal(t, "PartnersOf", codeOf(impl.PartnersOf(c.r, c.u)), want)
		_, code := impl.PartnersUpTo(c.r, c.u, 1)
		equal(t, "PartnersUpTo", code, want)
		_, code = impl.PartnersUpTo(c.r, c.u, -1)
		equal(t, "PartnersUpTo", code, int64(impl.ErrRange))
	}
}

// What is chosen has the same inputs, and the first partner of each.
func TestChosenPartnersAreFirst(t *testing.T) {
	for _, r := range pairsToChoose(t) {
		w := &chooser{}
		want := w.chosen(r)
		got, code := impl.ChooseFirst(r)
		isToldChoice(t, "ChooseFirst", got, code, w, want)
		if code != impl.OK {
			t.Fatalf("%v is too large", r)
		}
		equal(t, "what is chosen has two partners", someHasTwo(got), false)
		inputs, outputs := made(t)(impl.InputsIn(r)), made(t)(impl.OutputsIn(r))
		equal(t, "inputs of what is chosen", made(t)(impl.InputsIn(got)), inputs)
		back := turnedOver(r)
		for _, u := range wordsUpTo(3) {
			first, some := firstIn(r, u)
			equal(t, "it is an input", takes(inputs, []string{u}), some)
			equal(t, "it is an output", takes(outputs, []string{u}), hasPartners(back, u))
			for _, v := range wordsUpTo(4) {
				if takes(got, []string{u, v}) != (some && v == first) {
					t.Fatalf("ChooseFirst of %v: %q and %q", r, u, v)
				}
			}
			if some {
				equal(t, "the first one", takes(got, []string{u, first}), true)
			}
		}
		again := made(t)(impl.ChooseFirst(got))
		equal(t, "chosen again", again, got)
	}
}

// choice is a function that makes a relation of one of two tapes.
type choice struct {
	name string
	make func(r impl.Relation) (impl.Relation, int64)
	told func(w *chooser, r impl.Relation) impl.Relation
}

func allChoices() []choice {
	return []choice{
		{"InputsIn", impl.InputsIn, (*chooser).inputs},
		{"OutputsIn", impl.OutputsIn, (*chooser).outputs},
		{"ChooseFirst", impl.ChooseFirst, (*chooser).chosen},
		{"SectionOf", impl.SectionOf, (*chooser).section},
		{"SameImageOf", impl.SameImageOf, (*chooser).sameImage},
		{"FixedWords", impl.FixedWords, (*chooser).fixedWords},
	}
}

func TestChoicesAsTold(t *testing.T) {
	for _, c := range allChoices() {
		seen := map[int64]int{}
		for _, r := range append(pairsToChoose(t), largePairs()...) {
			w := &chooser{}
			want := c.told(w, r)
			got, code := c.make(r)
			isToldChoice(t, c.name, got, code, w, want)
			seen[code]++
		}
		if seen[impl.OK] < 60 || seen[impl.ErrLimit] < 2 {
			t.Errorf("%s: codes %v, so the test tells little", c.name, seen)
		}
	}
}

// The order of words with a tape added in front has 10 tidy states, so there may be
// 100 of a relation with one behind. Then there may be MaxRaw pairs of a state of the
// relation and one of what comes behind a partner.
func TestLimitsOfChoosing(t *testing.T) {
	equal(t, "states of the order", tidySize(naiveAdd(naiveOrder(), 0)), 10)
	for _, c := range []struct {
		r             impl.Relation
		states, pairs int
		code          int64
	}{
		{pairsWith(circle(49)), 100, 150, impl.OK},
		{padded(pairsWith(circle(49))), 100, 150, impl.OK},
		{ring(47), 100, 250, impl.OK},
		{lots(49), 101, 0, impl.ErrLimit},
		{pairsWith(circle(50)), 102, 0, impl.ErrLimit},
		{ring(48), 102, 0, impl.ErrLimit},
		{equalIn(lasso(8, 11)), 39, impl.MaxRaw, impl.OK},
		{pairsWith(lasso(17, 32)), 99, impl.MaxRaw, impl.OK},
		{equalIn(lasso(2, 16)), 37, impl.MaxRaw + 7, impl.ErrLimit},
		{pairsWith(lasso(18, 29)), 95, impl.MaxRaw + 8, impl.ErrLimit},
		{twice(21), 44, impl.MaxRaw + 12, impl.ErrLimit},
	} {
		equal(t, "states with a tape added", tidySize(naiveAdd(c.r, 2)), c.states)
		w := &chooser{}
		later := w.composed(c.r, naiveOrder())
		if c.pairs > 0 {
			equal(t, "pairs", tidySize(c.r)*tidySize(later), c.pairs)
		}
		want := w.chosen(c.r)
		got, code := impl.ChooseFirst(c.r)
		isToldChoice(t, "ChooseFirst", got, code, w, want)
		equal(t, "ChooseFirst", code, c.code)
		yes, code := impl.IsFunction(c.r)
		equal(t, "IsFunction", []any{yes, code}, []any{c.code == impl.OK && !someHasTwo(c.r), c.code})
	}
}

func TestFunctionsAsTold(t *testing.T) {
	functions, limits := map[bool]int{}, 0
	for _, r := range append(pairsToChoose(t), largePairs()...) {
		w := &chooser{}
		want := w.isFunction(r)
		yes, code := impl.IsFunction(r)
		if w.limited {
			equal(t, "IsFunction", []any{yes, code}, []any{false, int64(impl.ErrLimit)})
			limits++
		} else {
			equal(t, "IsFunction", []any{yes, code}, []any{want, int64(impl.OK)})
			equal(t, "no word has two partners", yes, !someHasTwo(r))
			functions[yes]++
		}
		both := w.isFunction(w.turned(r)) && want
		yes, code = impl.IsOneToOne(r)
		if w.limited {
			equal(t, "IsOneToOne", []any{yes, code}, []any{false, int64(impl.ErrLimit)})
		} else {
			equal(t, "IsOneToOne", []any{yes, code}, []any{both, int64(impl.OK)})
		}
	}
	if functions[true] < 30 || functions[false] < 30 || limits < 5 {
		t.Errorf("%v are functions, %d limits, so the test tells little", functions, limits)
	}
}

// All that is named is looked at: the opposite of a relation that is no function may
// be too large.
func TestBothWaysAreLookedAt(t *testing.T) {
	seen := map[[2]int64]int{}
	d := dice(727)
	list := largePairs()
	for range 60 {
		list = append(list, cutOff(randomRelation(&d, 2, 4+d.below(20)), &d))
	}
	for _, r := range list {
		_, one := impl.IsFunction(r)
		_, two := impl.IsFunction(turnedOver(r))
		_, both := impl.IsOneToOne(r)
		if len(turnedOver(r).Next) > impl.MaxStates {
			continue
		}
		want := int64(impl.OK)
		if one != impl.OK || two != impl.OK {
			want = impl.ErrLimit
		}
		equal(t, "IsOneToOne", both, want)
		seen[[2]int64{one, two}]++
	}
	if seen[[2]int64{impl.OK, impl.ErrLimit}] < 1 || seen[[2]int64{impl.ErrLimit, impl.OK}] < 1 {
		t.Errorf("codes %v, so the test tells little", seen)
	}
}

func TestKnownFunctions(t *testing.T) {
	next, order := impl.SuccessorRelation(), impl.OrderRelation()
	for _, c := range []struct {
		what               string
		r                  impl.Relation
		function, oneToOne bool
	}{
		{"equal words", impl.EqualWords(), true, true},
		{"the next word", next, true, true},
		{"the word before", inverseOf(t, next), true, true},
		{"the order", order, false, false},
		{"prefixes", impl.IsPrefixRelation(), false, false},
		{"everything", everything(2), false, false},
		{"nothing", nothing(2), true, true},
		{"the empty word for all", emptying(), true, false},
		{"all for the empty word", pairsWith(everything(1)), false, false},
		{"the first letter", keepingFirst(), true, false},
		{"a letter behind", lengthening(0), true, true},
		{"both letters exchanged", flipping(), true, true},
		{"the letters before", delaying(), true, false},
		{"the letters behind", lookingAhead(), true, false},
		{"up to a letter", addingUp(), true, true},
	} {
		yes, code := impl.IsFunction(c.r)
		equal(t, c.what, []any{yes, code}, []any{c.function, int64(impl.OK)})
		yes, code = impl.IsOneToOne(c.r)
		equal(t, c.what, []any{yes, code}, []any{c.oneToOne, int64(impl.OK)})
	}
	equal(t, "first of all", made(t)(impl.ChooseFirst(everything(2))), made(t)(impl.TidyRelation(emptying())))
	equal(t, "first of those behind", made(t)(impl.ChooseFirst(order)), next)
	equal(t, "first that begin with it", made(t)(impl.ChooseFirst(impl.IsPrefixRelation())), impl.EqualWords())
	equal(t, "first of nothing", made(t)(impl.ChooseFirst(nothing(2))), nothing(2))
	equal(t, "inputs of the word before", made(t)(impl.InputsIn(inverseOf(t, next))), made(t)(impl.OutputsIn(next)))
}

func TestIsDefinedOn(t *testing.T) {
	seen := map[bool]int{}
	for _, f := range pairsToChoose(t) {
		for _, domain := range someDomains(t) {
			yes, code := impl.IsDefinedOn(f, domain)
			want := true
			for _, u := range wordsUpTo(6) {
				want = want && (!takes(domain, []string{u}) || hasPartners(f, u))
			}
			equal(t, "code", code, int64(impl.OK))
			if yes != want {
				t.Fatalf("IsDefinedOn of %v and %v: %v", f, domain, yes)
			}
			seen[yes]++
		}
	}
	if seen[true] < 50 || seen[false] < 50 {
		t.Errorf("%v are defined, so the test tells little", seen)
	}
	for _, f := range largePairs() {
		w := &chooser{}
		w.inputs(f)
		yes, code := impl.IsDefinedOn(f, nothing(1))
		want := []any{true, int64(impl.OK)}
		if w.limited {
			want = []any{false, int64(impl.ErrLimit)}
		}
		equal(t, "IsDefinedOn", []any{yes, code}, want)
	}
	yes, code := impl.IsDefinedOn(branches(7, 31, 32), nothing(1))
	equal(t, "too many sets", []any{yes, code}, []any{false, int64(impl.ErrLimit)})
	yes, code = impl.IsDefinedOn(branches(6, 31, 32), turning(1, 150))
	equal(t, "MaxRaw sets, and not all words", []any{yes, code}, []any{false, int64(impl.OK)})
}

// eitherOf takes what two relations of few states take.
func eitherOf(r, s impl.Relation) impl.Relation {
	return naiveTidy(naivePairs(naiveTidy(r), naiveTidy(s), func(p, q bool) bool { return p || q }))
}

func isTwoPartners(t *testing.T, r impl.Relation, u, v, w string, code int64) {
	t.Helper()
	one, two, three, got := impl.TwoPartners(r)
	equal(t, "TwoPartners", []any{one, two, three, got}, []any{u, v, w, code})
}

// firstDouble finds the first word with two partners, which has one in what is left of
// r when first partners have been chosen.
func firstDouble(r, rest impl.Relation) (u, v, w string) {
	u, _ = firstWordIn(naiveSets(naiveTidy(rest), 1))
	v, _ = firstIn(r, u)
	w, _ = firstIn(rest, u)
	return u, v, w
}

func TestTwoPartners(t *testing.T) {
	doubles, limits := 0, 0
	for i, r := range append(pairsToChoose(t), largePairs()...) {
		w := &chooser{}
		rest := w.put(r, w.chosen(r), takesOnly)
		w.inputs(rest)
		one, two, three := firstDouble(r, rest)
		tooLong := max(len(one), len(two), len(three)) > impl.MaxWord
		switch {
		case !someHasTwo(r):
			isTwoPartners(t, r, "", "", "", impl.ErrNotFound)
		case w.limited || tooLong:
			isTwoPartners(t, r, "", "", "", impl.ErrLimit)
			limits++
		default:
			isTwoPartners(t, r, one, two, three, impl.OK)
			doubles++
		}
		if t.Failed() {
			t.Fatalf("in %d: %v", i, r)
		}
	}
	if doubles < 30 || limits < 5 {
		t.Errorf("%d doubles, %d limits, so the test tells little", doubles, limits)
	}
}

func TestTwoPartnersOfKnownRelations(t *testing.T) {
	isTwoPartners(t, impl.OrderRelation(), "", "a", "b", impl.OK)
	isTwoPartners(t, inverseOf(t, impl.OrderRelation()), "b", "", "a", impl.OK)
	isTwoPartners(t, impl.IsPrefixRelation(), "", "", "a", impl.OK)
	isTwoPartners(t, inverseOf(t, impl.IsPrefixRelation()), "a", "", "a", impl.OK)
	isTwoPartners(t, lengths(t, impl.RlEqual), "a", "a", "b", impl.OK)
	isTwoPartners(t, everything(2), "", "", "a", impl.OK)
	isTwoPartners(t, onlyPairs(t, []string{"b", "b"}, []string{"ab", "bb"}, []string{"ab", "b"}, []string{"aab", ""}, []string{"aab", "a"}), "ab", "b", "bb", impl.OK)
	isTwoPartners(t, impl.SuccessorRelation(), "", "", "", impl.ErrNotFound)
	isTwoPartners(t, nothing(2), "", "", "", impl.ErrNotFound)
	isTwoPartners(t, emptying(), "", "", "", impl.ErrNotFound)
	isTwoPartners(t, pairsWith(everything(1)), "", "", "a", impl.OK)
}

// oneMore takes what r takes, and one pair more.
func oneMore(r impl.Relation, u, w string) impl.Relation {
	list := numbersOf([]string{u, w})
	end := int64(len(list))
	pair := madeBy(2, make([]bool, end+2), func(state int64, digits []int64) int64 {
		if state < end && columnOf(digits) == list[state] {
			return state + 1
		}
		return end + 1
	})
	pair.Accept[end] = true
	return eitherOf(r, pair)
}

// Each of the three words may be too long.
func TestLimitsOfTwoPartners(t *testing.T) {
	for n := impl.MaxWord - 2; n <= impl.MaxWord+2; n++ {
		a := strings.Repeat("a", n)
		for _, c := range []struct {
			what    string
			r       impl.Relation
			u, v, w string
		}{
			{"the second partner", oneMore(pairsWith(spelled("b")), "", a), "", "b", a},
			{"the word", oneMore(emptying(), a, "b"), a, "", "b"},
			{"both partners", oneMore(lengthening(0), a, a+"b"), a, a + "a", a + "b"},
			{"the second one of two letters", oneMore(flipping(), "ab", a), "ab", "ba", a},
		} {
			if max(len(c.u), len(c.v), len(c.w)) > impl.MaxWord {
				isTwoPartners(t, c.r, "", "", "", impl.ErrLimit)
			} else {
				isTwoPartners(t, c.r, c.u, c.v, c.w, impl.OK)
			}
			yes, code := impl.IsFunction(c.r)
			equal(t, c.what, []any{yes, code}, []any{false, int64(impl.OK)})
		}
	}
}

// That a relation is a function comes before limits, also if too many states are
// needed to choose partners.
func TestTwoPartnersOfLargeRelations(t *testing.T) {
	for _, f := range []impl.Relation{twice(98), twice(148), equalIn(lasso(1, 147)), naiveScribeRelation(longScribe(149))} {
		isTwoPartners(t, f, "", "", "", impl.ErrNotFound)
		_, code := impl.IsFunction(f)
		equal(t, "IsFunction", code, int64(impl.ErrLimit))
	}
	for _, r := range []impl.Relation{turning(2, 60), turning(2, 150), ring(148), evenRing(2, 50), evenRing(2, 148)} {
		isTwoPartners(t, r, "", "", "", impl.ErrLimit)
		_, code := impl.IsFunction(r)
		equal(t, "IsFunction", code, int64(impl.ErrLimit))
	}
}
