package tests

import (
	"math"
	"reflect"
	"slices"
	"strings"
	"testing"

	"loop.example/g01168/impl"
)

// Promise 1 for the functions of chapter 7.

// callsOfChapter7 calls every function that is given relations.
func callsOfChapter7(f, g, domain impl.Relation, u string, n int64) []call {
	var calls []call
	add := func(name string, result any, code int64) { calls = append(calls, call{name, []any{result, code}}) }
	keep := func(name string) func(r impl.Relation, code int64) {
		return func(r impl.Relation, code int64) { add(name, r, code) }
	}
	keep("PartnersOf")(impl.PartnersOf(f, u))
	first, code := impl.FirstPartner(f, u)
	add("FirstPartner", first, code)
	list, code := impl.PartnersUpTo(f, u, n)
	add("PartnersUpTo", list, code)
	for _, c := range allChoices() {
		keep(c.name)(c.make(f))
	}
	yes, code := impl.IsFunction(f)
	add("IsFunction", yes, code)
	yes, code = impl.IsOneToOne(f)
	add("IsOneToOne", yes, code)
	yes, code = impl.IsDefinedOn(f, domain)
	add("IsDefinedOn", yes, code)
	one, two, three, code := impl.TwoPartners(f)
	add("TwoPartners", [3]string{one, two, three}, code)
	w, code := impl.ApplySteps(f, u, n)
	add("ApplySteps", w, code)
	before, further, code := impl.CycleOf(f, u, n)
	add("CycleOf", [2]int64{before, further}, code)
	keep("JoinFunctions")(impl.JoinFunctions(f, g))
	keep("RestrictFunction")(impl.RestrictFunction(f, domain))
	yes, code = impl.IsLetterwise(f)
	add("IsLetterwise", yes, code)
	x, code := impl.ScribeOf(f)
	add("ScribeOf", x, code)
	return calls
}

// callsOfScribes calls the functions that are given scribes.
func callsOfScribes(x, y impl.Scribe, u string) []call {
	w, code := impl.RunScribe(x, u)
	r, same := impl.RelationOfScribe(x)
	return []call{
		{"RunScribe", []any{w, code}},
		{"RelationOfScribe", []any{r, same}},
		{"ValidScribe", []any{impl.ValidScribe(x), int64(impl.OK)}},
		{"SameScribe", []any{impl.SameScribe(x, y), int64(impl.OK)}},
	}
}

func roomyScribe(x impl.Scribe) impl.Scribe {
	return impl.Scribe{
		Accept: withRoom(x.Accept, true, false, true),
		Next:   withRoom(x.Next, [2]int64{7, 8}, [2]int64{9, 9}),
		Out:    withRoom(x.Out, [2]string{"unused", "room"}),
	}
}

// everythingOf copies a scribe with all unused capacity.
func everythingOf(x impl.Scribe) []any { return []any{roomOf(x.Accept), roomOf(x.Next), roomOf(x.Out)} }

func promisedScribes() []impl.Scribe {
	return slices.Concat(someScribes()[:40], wrongScribes(), []impl.Scribe{longScribe(impl.MaxScribe), longScribe(impl.MaxScribe - 1)})
}

func TestRelationsToChooseAreNotModified(t *testing.T) {
	list := append(pairsToChoose(t), largePairs()...)
	for i, f := range list {
		one, two := roomyRelation(f), roomyRelation(list[(7*i+3)%len(list)])
		three := roomyRelation(someDomains(t)[i%len(someDomains(t))])
		seen := func() []any { return []any{everythingIn(one), everythingIn(two), everythingIn(three)} }
		before := seen()
		calls := callsOfChapter7(one, two, three, "ab", 3)
		equal(t, "arguments", seen(), before)
		again := callsOfChapter7(f, copyOf(two), copyOf(three), "ab", 3)
		if !reflect.DeepEqual(calls, again) {
			t.Fatalf("%v and then %v", calls, again)
		}
	}
}

func TestScribesAreNotModified(t *testing.T) {
	list := promisedScribes()
	for i, x := range list {
		one, two := roomyScribe(x), roomyScribe(list[(i+1)%len(list)])
		seen := func() []any { return []any{everythingOf(one), everythingOf(two)} }
		before := seen()
		calls := callsOfScribes(one, two, "abb")
		equal(t, "arguments", seen(), before)
		equal(t, "results for equal arguments", callsOfScribes(x, copyOfScribe(two), "abb"), calls)
	}
	none := impl.Scribe{Accept: []bool{}, Next: [][2]int64{}, Out: [][2]string{}}
	equal(t, "nil and empty", callsOfScribes(none, impl.Scribe{}, ""), callsOfScribes(impl.Scribe{}, none, ""))
}

// spoilScribe overwrites all that can be reached from slices, and what is behind them.
func spoilScribe(x impl.Scribe) {
	for i := range x.Accept[:cap(x.Accept)] {
		x.Accept[:cap(x.Accept)][i] = !x.Accept[:cap(x.Accept)][i]
	}
	for i := range x.Next[:cap(x.Next)] {
		x.Next[:cap(x.Next)][i] = [2]int64{-7, -8}
	}
	for i := range x.Out[:cap(x.Out)] {
		x.Out[:cap(x.Out)][i] = [2]string{"spoiled", "too"}
	}
}

func TestResultsOfChapter7ShareNoMemory(t *testing.T) {
	for _, f := range append(someFunctions(t)[:20], impl.OrderRelation(), everything(2), nothing(2)) {
		for _, domain := range []impl.Relation{everything(1), nothing(1), evenA()} {
			kept, keptDomain := copyOf(f), copyOf(domain)
			calls := func() []call { return callsOfChapter7(f, f, domain, "ab", 3) }
			first, second := calls(), calls()
			isUnshared(t, first, second)
			for i, c := range first {
				switch made := c.results[0].(type) {
				case impl.Scribe:
					spoilScribe(made)
				case []string:
					for k := range made[:cap(made)] {
						made[:cap(made)][k] = "spoiled"
					}
				}
				equal(t, c.name+": argument", []impl.Relation{f, domain}, []impl.Relation{kept, keptDomain})
				equal(t, c.name+": another result", first[i+1:], withSpoiled(first, second, i+1))
			}
			equal(t, "later results", calls(), second)
		}
	}
	for _, x := range someScribes()[:20] {
		kept := copyOfScribe(x)
		made, _ := impl.RelationOfScribe(x)
		before := copyOf(made)
		rowsAreApart(t, made)
		spoil(made)
		equal(t, "argument", x, kept)
		again, _ := impl.RelationOfScribe(x)
		equal(t, "another result", again, before)
	}
}

// withSpoiled returns the second results from one on, but for relations, which have been
// overwritten in the first ones.
func withSpoiled(first, second []call, from int) []call {
	list := slices.Clone(second[from:])
	for i := range list {
		if _, ok := list[i].results[0].(impl.Relation); ok {
			list[i] = first[from+i]
		}
	}
	return list
}

func TestInvalidChoicesAreToldFirst(t *testing.T) {
	good, long := impl.SuccessorRelation(), strings.Repeat("b", impl.MaxWord+1)
	withWords := []string{"PartnersOf", "FirstPartner", "PartnersUpTo", "ApplySteps", "CycleOf"}
	for _, r := range wrongRelations() {
		for _, calls := range [][]call{callsOfChapter7(r, good, evenA(), "a", 1), callsOfChapter7(r, r, r, "c", -5), callsOfChapter7(r, everything(3), everything(2), long, math.MaxInt64)} {
			for _, c := range calls {
				equal(t, c.name, c.results[1], int64(impl.ErrInvalid))
			}
		}
		for _, f := range []impl.Relation{good, everything(1), everything(3)} {
			for _, c := range callsOfChapter7(f, r, r, "b\n", -1) {
				if slices.Contains(append(withWords, "JoinFunctions", "RestrictFunction", "IsDefinedOn"), c.name) {
					equal(t, c.name, c.results[1], int64(impl.ErrInvalid))
				}
			}
		}
	}
	for _, u := range []string{"c", "A", " ", "#", "ab\n", long, "a\x00", "ä"} {
		for _, f := range []impl.Relation{good, everything(1), everything(3), ring(148), impl.OrderRelation()} {
			for _, n := range []int64{-1, 1, math.MaxInt64} {
				for _, c := range callsOfChapter7(f, f, f, u, n) {
					equal(t, c.name+" "+u, c.results[1] == int64(impl.ErrInvalid), slices.Contains(withWords, c.name))
				}
			}
		}
	}
}

// ErrRange is the next error: relations with other tapes, lengths and steps that are
// out of range.
func TestRangesOfChapter7(t *testing.T) {
	two, next := impl.OrderRelation(), impl.SuccessorRelation()
	withDomains := []string{"IsDefinedOn", "RestrictFunction"}
	for _, other := range []impl.Relation{everything(1), everything(3), nothing(1), nothing(3), evenA(), turning(3, 150)} {
		for _, c := range callsOfChapter7(other, two, evenA(), "ab", 1) {
			equal(t, c.name, c.results[1], int64(impl.ErrRange))
		}
		for _, c := range callsOfChapter7(next, other, evenA(), "ab", 1) {
			equal(t, c.name, c.results[1] == int64(impl.ErrRange), c.name == "JoinFunctions")
		}
		for _, f := range []impl.Relation{next, ring(148), turning(2, 150)} {
			for _, c := range callsOfChapter7(f, next, other, "ab", 1) {
				equal(t, c.name, c.results[1] == int64(impl.ErrRange), slices.Contains(withDomains, c.name) && other.Tapes != 1)
			}
		}
	}
	for _, f := range []impl.Relation{next, two, nothing(2), ring(148), turning(2, 150)} {
		for _, c := range []struct {
			n     int64
			wrong []string
		}{
			{-1, []string{"PartnersUpTo", "ApplySteps", "CycleOf"}},
			{math.MinInt64, []string{"PartnersUpTo", "ApplySteps", "CycleOf"}},
			{0, []string{"CycleOf"}},
			{1, nil},
			{impl.MaxLength, nil},
			{impl.MaxLength + 1, []string{"PartnersUpTo"}},
			{impl.MaxApplied, []string{"PartnersUpTo"}},
			{impl.MaxApplied + 1, []string{"PartnersUpTo", "ApplySteps", "CycleOf"}},
			{math.MaxInt64, []string{"PartnersUpTo", "ApplySteps", "CycleOf"}},
		} {
			for _, called := range callsOfChapter7(f, f, everything(1), strings.Repeat("ab", 20), c.n) {
				equal(t, called.name, called.results[1] == int64(impl.ErrRange), slices.Contains(c.wrong, called.name))
			}
		}
	}
}

// Whatever the arguments are, results with an error are empty.
func TestResultsOfChapter7WithErrorsAreZero(t *testing.T) {
	list := slices.Concat(pairsToChoose(t), largePairs(), wrongRelations(), someDomains(t))
	numbers := []int64{0, 1, 2, 5, -1, impl.MaxLength, impl.MaxLength + 1, impl.MaxApplied, impl.MaxApplied + 1, math.MinInt64}
	words := []string{"", "a", "abba", "c", strings.Repeat("ab", 20), strings.Repeat("b", 41)}
	seen := map[int64]int{}
	for i, f := range list {
		calls := callsOfChapter7(f, list[(7*i+3)%len(list)], list[(5*i+1)%len(list)], words[i%len(words)], numbers[i%len(numbers)])
		for _, x := range promisedScribes()[i%7*10 : i%7*10+10] {
			calls = append(calls, callsOfScribes(x, x, words[i%len(words)])...)
		}
		for _, c := range calls {
			code := c.results[1].(int64)
			seen[code]++
			x, isScribe := c.results[0].(impl.Scribe)
			empty := isZero(c.results[0]) || isScribe && impl.SameScribe(x, impl.Scribe{})
			if code != impl.OK && !empty {
				t.Errorf("%s returns %v", c.name, c.results)
			}
		}
	}
	for _, code := range []int64{impl.OK, impl.ErrInvalid, impl.ErrRange, impl.ErrLimit, impl.ErrState, impl.ErrNotFound, impl.ErrBudget} {
		equal(t, "this code is returned", seen[code] > 0, true)
	}
}

func TestLargeArgumentsOfChapter7(t *testing.T) {
	const many = 1000000
	long := strings.Repeat("a", many)
	for _, x := range []impl.Scribe{
		{Accept: make([]bool, many)},
		{Next: make([][2]int64, many/2)},
		{Out: slices.Repeat([][2]string{{"a", "b"}}, many/2)},
		{Accept: make([]bool, many/5), Next: make([][2]int64, many/5), Out: slices.Repeat([][2]string{{"a", "b"}}, many/5)},
		{Accept: []bool{true}, Next: make([][2]int64, 1), Out: [][2]string{{long, "b"}}},
	} {
		for _, c := range callsOfScribes(x, x, long) {
			if c.name != "SameScribe" && c.name != "ValidScribe" {
				equal(t, c.name, c.results[1], int64(impl.ErrInvalid))
			}
		}
	}
	for _, u := range []string{long, strings.Repeat("\n", many)} {
		w, code := impl.RunScribe(longScribe(1), u)
		equal(t, "RunScribe", []any{w, code}, []any{"", int64(impl.ErrInvalid)})
	}
}

// The largest relations that are valid, with the longest words and most steps.
func TestLargestRelationsToChoose(t *testing.T) {
	d := dice(743)
	long := strings.Repeat("ab", impl.MaxWord/2)
	slow := naiveScribeRelation(ofEqualWords(149))
	for s := range slow.Accept[:149] {
		slow.Accept[s] = s != 77
	}
	for _, f := range []impl.Relation{slow, turnedOver(slow), turning(2, 150), ring(150), randomRelation(&d, 2, 150), evenRing(2, 149), cutOff(randomRelation(&d, 2, 150), &d)} {
		for _, u := range []string{long, ""} {
			for _, c := range callsOfChapter7(f, f, turning(1, 150), u, impl.MaxApplied) {
				if c.name == "ChooseFirst" && len(f.Next) == 150 && reflect.DeepEqual(f, slow) {
					equal(t, c.name, c.results[1], int64(impl.ErrLimit))
				}
			}
			callsOfChapter7(f, turning(2, 150), chain(100), u, impl.MaxLength)
		}
	}
	isLetterwise(t, slow, true)
}
