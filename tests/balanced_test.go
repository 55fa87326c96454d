package tests

import (
	"slices"
	"strings"
	"testing"

	"loop.example/g01168/impl"
)

// Promise 17, its second half: lags, and transducers that are relations.

func TestIsBalanced(t *testing.T) {
	d := dice(643)
	list := someMachines()
	for range 300 {
		states := 2 + d.below(6)
		list = append(list, evenMachine(&d, states, states+d.below(states)), randomMachine(&d, states, states))
	}
	balanced := 0
	for _, x := range list {
		trimmed := naiveTrim(x)
		want := isEven(trimmed)
		got, code := impl.IsBalanced(x)
		if code != impl.OK || got != want {
			t.Fatalf("IsBalanced: %v, %d, by %s", got, code, textOf(x))
		}
		least, most, code := impl.LagsOf(x)
		if !want {
			equal(t, "lags of "+textOf(x), []int64{least, most, code}, []int64{0, 0, impl.ErrState})
			continue
		}
		balanced++
		low, high := leastAndMost(trimmed)
		equal(t, "lags of "+textOf(x), []int64{least, most, code}, []int64{low, high, impl.OK})
	}
	if balanced < 100 || balanced > len(list)-100 {
		t.Errorf("%d transducers are balanced", balanced)
	}
}

// leastAndMost looks at all paths from the start on which no state comes twice, and
// some more.
func leastAndMost(trimmed impl.Transducer) (least, most int64) {
	for _, lags := range naiveLags(trimmed, trimmed.Start, len(trimmed.Accept)) {
		least, most = min(least, slices.Min(lags)), max(most, slices.Max(lags))
	}
	return least, most
}

// pathOf has so many edges in a row, the last state accepting.
func pathOf(edge string, edges int) impl.Transducer {
	x := machineOf(0, strings.Repeat("n", edges)+"y")
	for i := range int64(edges) {
		e := machineOf(0, "", "0 1 "+edge).Edges[0]
		x.Edges = append(x.Edges, impl.Edge{From: i, To: i + 1, In: e.In, Out: e.Out})
	}
	return x
}

func TestLags(t *testing.T) {
	around := pathOf("a -", 20)
	around.Accept = append(around.Accept, slices.Repeat([]bool{true}, 19)...)
	for i := range int64(20) {
		around.Edges = append(around.Edges, impl.Edge{From: 20 + i, To: (21 + i) % 40, Out: "b"})
	}
	uneven := copyOfMachine(around)
	uneven.Edges[30].Out = ""
	for _, c := range []struct {
		what        string
		x           impl.Transducer
		least, most int64
		code        int64
	}{
		{"a letter for each letter", machineOf(0, "y", "0 0 a b"), 0, 0, impl.OK},
		{"no edges", machineOf(0, "y"), 0, 0, impl.OK},
		{"nothing is related", machineOf(0, "ny"), 0, 0, impl.OK},
		{"one letter is read", machineOf(0, "ny", "0 1 a -"), 0, 1, impl.OK},
		{"one letter is written", machineOf(0, "ny", "0 1 - b"), -1, 0, impl.OK},
		{"39 letters are read", pathOf("b -", 39), 0, 39, impl.OK},
		{"39 letters are written", pathOf("- a", 39), -39, 0, impl.OK},
		{"letters are read and written", pathOf("b a", 39), 0, 0, impl.OK},
		{"read and then written", machineOf(0, "nnnny", "0 1 a -", "1 2 a -", "2 3 - b", "3 4 - b", "4 4 a a"), 0, 2, impl.OK},
		{"written and then read", machineOf(0, "nnnny", "0 1 - a", "1 2 - a", "2 3 b -", "3 4 b -", "4 4 a a"), -2, 0, impl.OK},
		{"two ways", machineOf(0, "nnny", "0 1 - a", "0 2 a -", "1 3 - a", "2 3 a -"), -2, 2, impl.OK},
		{"a circle through all states", around, 0, 20, impl.OK},
		{"a circle with a lag of 1", uneven, 0, 0, impl.ErrState},
		{"a circle that reads", machineOf(0, "y", "0 0 a -"), 0, 0, impl.ErrState},
		{"a circle that writes", machineOf(0, "y", "0 0 - a"), 0, 0, impl.ErrState},
		{"circles that make up for each other", machineOf(0, "y", "0 0 a -", "0 0 - a"), 0, 0, impl.ErrState},
		{"a circle of two", machineOf(0, "yn", "0 1 a -", "1 0 - b"), 0, 1, impl.OK},
		{"a circle of two, with a lag", machineOf(0, "yn", "0 1 a -", "1 0 b -"), 0, 0, impl.ErrState},
		{"a circle of empty words", machineOf(0, "yy", "0 1 - -", "1 0 - -"), 0, 0, impl.OK},
		{"a circle that is not reached", machineOf(0, "yy", "1 1 a -", "1 0 - -"), 0, 0, impl.OK},
		{"a circle that leads to no accepting state", machineOf(0, "yn", "0 1 - b", "1 1 a -"), 0, 0, impl.OK},
		{"a circle at an accepting state", machineOf(0, "yy", "0 1 - b", "1 1 a -"), 0, 0, impl.ErrState},
		{"lags behind the accepting states", machineOf(0, "ynn", "0 1 a -", "1 2 a -"), 0, 0, impl.OK},
		{"paths that do not end at an accepting state", machineOf(0, "nny", "0 1 a -", "1 2 - b"), 0, 1, impl.OK},
		{"paths with several lags to a circle", machineOf(0, "ny", "0 1 a -", "0 1 - b", "0 1 a b", "1 1 b a"), -1, 1, impl.OK},
	} {
		least, most, code := impl.LagsOf(c.x)
		equal(t, c.what, []int64{least, most, code}, []int64{c.least, c.most, c.code})
		balanced, code := impl.IsBalanced(c.x)
		equal(t, c.what, []any{balanced, code}, []any{c.code == impl.OK, int64(impl.OK)})
		least, most, _ = impl.LagsOf(naiveTurn(c.x))
		equal(t, c.what+", turned", []int64{least, most}, []int64{-c.most, -c.least})
	}
}

// onlyPairs returns the relation of some pairs of words. It is made by the program.
func onlyPairs(t *testing.T, pairs ...[]string) impl.Relation {
	t.Helper()
	return made(t)(impl.RelationOf(2, pairs))
}

// evenMachines are balanced transducers with at most three states when they are
// trimmed, since more are always too many sets.
func evenMachines() []impl.Transducer {
	var list []impl.Transducer
	for _, x := range someMachines() {
		if trimmed := naiveTrim(x); len(trimmed.Accept) < 3 && isEven(trimmed) {
			list = append(list, x)
		}
	}
	d := dice(647)
	for range 60 {
		list = append(list, evenMachine(&d, 3, 3+d.below(4)))
	}
	return slices.DeleteFunc(list, func(x impl.Transducer) bool { return !isEven(naiveTrim(x)) })
}

func TestRelationOfTransducer(t *testing.T) {
	limited := 0
	for _, x := range evenMachines() {
		want := naiveColumns(naiveTrim(x))
		got, code := impl.RelationOfTransducer(x)
		if len(want.Next) > impl.MaxRaw {
			isLimit(t, "RelationOfTransducer of "+textOf(x), got, code)
			limited++
			continue
		}
		isMade(t, "RelationOfTransducer of "+textOf(x), got, code, want, len(want.Next))
		for _, words := range allTuples(2, 3) {
			if takes(got, words) != naiveRelates(x, words[0], words[1]) {
				t.Fatalf("%q are taken wrongly, by %s", words, textOf(x))
			}
		}
		comesBack(t, x, got)
	}
	if limited == 0 {
		t.Error("no transducer has too many sets")
	}
}

// comesBack looks whether the transducer of the relation of x relates the same.
func comesBack(t *testing.T, x impl.Transducer, r impl.Relation) {
	t.Helper()
	back, code := impl.TransducerOf(r)
	equal(t, "TransducerOf", code, int64(impl.OK))
	for _, words := range allTuples(2, 2) {
		if yes, _ := impl.Relates(back, words[0], words[1]); yes != naiveRelates(x, words[0], words[1]) {
			t.Fatalf("%q: %v, by %s for %s", words, yes, textOf(back), textOf(x))
		}
	}
	again, code := impl.RelationOfTransducer(back)
	if code == impl.OK && !impl.SameRelation(again, r) {
		t.Fatalf("%v became %v", r, again)
	}
}

// The longer of both words may end later than the other one by as many letters as the
// lag tells, and not more.
func TestRelationsOfLaggingTransducers(t *testing.T) {
	for _, c := range []struct {
		what          string
		x             impl.Transducer
		taken, others [][]string
	}{
		{"a letter for each letter", machineOf(0, "y", "0 0 a b"),
			[][]string{{"", ""}, {"a", "b"}, {"aaaaa", "bbbbb"}}, [][]string{{"a", ""}, {"", "b"}, {"aa", "bbb"}, {"aaa", "bb"}, {"b", "a"}}},
		{"two letters less", machineOf(0, "nny", "0 1 a -", "1 2 b -", "2 2 a a", "2 2 b b"),
			[][]string{{"ab", ""}, {"aba", "a"}, {"abbabba", "babba"}}, [][]string{{"", ""}, {"a", ""}, {"ab", "a"}, {"abab", "ba"}, {"aba", ""}}},
		{"two letters more", machineOf(2, "nyn", "2 0 - b", "0 1 - a", "1 1 a b", "1 1 b a"),
			[][]string{{"", "ba"}, {"a", "bab"}, {"bab", "baaba"}}, [][]string{{"", ""}, {"a", "b"}, {"", "b"}, {"", "bab"}, {"a", "baa"}}},
		{"a letter is written late", machineOf(0, "ynn", "0 1 a -", "0 2 b -", "1 0 - b", "2 0 - a"),
			[][]string{{"", ""}, {"ab", "ba"}, {"bbab", "aaba"}}, [][]string{{"a", ""}, {"a", "a"}, {"ab", "b"}, {"", "b"}}},
		{"either one letter more or one less", machineOf(0, "yy", "0 1 a -", "0 1 - a", "1 1 b b"),
			[][]string{{"", ""}, {"a", ""}, {"", "a"}, {"abb", "bb"}, {"b", "ab"}}, [][]string{{"a", "a"}, {"b", "b"}, {"ab", "bb"}, {"aa", ""}}},
		{"empty words around", machineOf(0, "ny", "0 1 - -", "1 0 - -", "0 0 a a", "1 1 - -"),
			[][]string{{"", ""}, {"aaa", "aaa"}}, [][]string{{"a", "aa"}, {"b", "b"}}},
	} {
		r := made(t)(impl.RelationOfTransducer(c.x))
		for _, words := range c.taken {
			equal(t, c.what, []any{words, takes(r, words)}, []any{words, true})
		}
		for _, words := range c.others {
			equal(t, c.what, []any{words, takes(r, words)}, []any{words, false})
		}
		isMade(t, c.what, r, impl.OK, naiveColumns(naiveTrim(c.x)), 1)
	}
	none := made(t)(impl.RelationOfTransducer(machineOf(1, "yn", "0 1 a b")))
	equal(t, "nothing", impl.RelationText(none), "relation 2 1 0\nno 0 0 0 0 0 0 0 0\n")
	empty := made(t)(impl.RelationOfTransducer(machineOf(0, "y")))
	equal(t, "only empty words", impl.RelationText(empty), "relation 2 2 0\nyes 1 1 1 1 1 1 1 1\nno 1 1 1 1 1 1 1 1\n")
}

// As many sets as there may be, and more. Four states have always too many: for each
// word with at most eight letters there is a set where it waits at the start, read or
// written.
func TestHowManySetsOfPlacesAreMet(t *testing.T) {
	exactly := machineOf(0, "yny", "0 1 b -", "0 1 b b", "1 2 a b", "0 0 a b", "1 2 b -", "2 2 a b", "0 0 - -", "1 2 - a")
	more := machineOf(0, "nyn", "1 1 a b", "0 2 b -", "0 2 b a", "0 1 - -", "0 2 - b", "0 1 - a", "0 2 - b", "2 1 b -")
	equal(t, "sets", len(naiveColumns(exactly).Next), impl.MaxRaw)
	r, code := impl.RelationOfTransducer(exactly)
	isMade(t, "MaxRaw sets", r, code, naiveColumns(exactly), impl.MaxRaw)
	for _, words := range allTuples(2, 3) {
		equal(t, strings.Join(words, " to "), takes(r, words), naiveRelates(exactly, words[0], words[1]))
	}
	equal(t, "sets", len(naiveColumns(more).Next), impl.MaxRaw+2)
	r, code = impl.RelationOfTransducer(more)
	isLimit(t, "more sets", r, code)
	for _, x := range []impl.Transducer{pathOf("a b", 3), pathOf("a -", 39), pathOf("- -", 3)} {
		r, code = impl.RelationOfTransducer(x)
		isLimit(t, "four states and more", r, code)
	}
	r, code = impl.RelationOfTransducer(pathOf("a b", 2))
	isMade(t, "three states", r, code, onlyPairs(t, []string{"aa", "bb"}), 1)
	// States that are trimmed away do not count, nor do the sets that they would make:
	// these tell which of the last ten letters are "a".
	last := machineOf(0, "y"+strings.Repeat("n", 10), "0 0 a a", "0 0 b b", "0 1 a a")
	for p := range int64(9) {
		last.Edges = append(last.Edges, impl.Edge{From: p + 1, To: p + 2, In: "a", Out: "a"}, impl.Edge{From: p + 1, To: p + 2, In: "b", Out: "b"})
	}
	r, code = impl.RelationOfTransducer(last)
	isMade(t, "one state of 11", r, code, impl.EqualWords(), 1)
	x := pathOf("a b", 2)
	x.Accept = append(x.Accept, make([]bool, 37)...)
	for p := range int64(39) {
		x.Edges = append(x.Edges, impl.Edge{From: p + 1, To: p + 1, In: "a"}, impl.Edge{From: 39, To: p})
	}
	x.Edges = slices.DeleteFunc(x.Edges, func(e impl.Edge) bool { return e.From < 3 && e.From == e.To })
	r, code = impl.RelationOfTransducer(x)
	isMade(t, "three states of 40", r, code, onlyPairs(t, []string{"aa", "bb"}), 1)
}

func TestErrorsOfRelationOfTransducer(t *testing.T) {
	for _, x := range wrongMachines() {
		r, code := impl.RelationOfTransducer(x)
		equal(t, "RelationOfTransducer", []any{len(r.Next), code}, []any{0, int64(impl.ErrInvalid)})
		yes, code := impl.IsBalanced(x)
		equal(t, "IsBalanced", []any{yes, code}, []any{false, int64(impl.ErrInvalid)})
		least, most, code := impl.LagsOf(x)
		equal(t, "LagsOf", []int64{least, most, code}, []int64{0, 0, impl.ErrInvalid})
	}
	uneven := pathOf("a b", 39)
	uneven.Edges = append(uneven.Edges, impl.Edge{From: 39, To: 39, In: "a"})
	for _, x := range []impl.Transducer{machineOf(0, "y", "0 0 a -"), uneven, fullMachine()} {
		r, code := impl.RelationOfTransducer(x)
		equal(t, "one that is not balanced", []any{len(r.Next), code}, []any{0, int64(impl.ErrState)})
	}
}

// naiveOf makes the edges of a tidy relation, and trims them.
func naiveOf(tidy impl.Relation) impl.Transducer {
	x := impl.Transducer{Accept: slices.Clone(tidy.Accept)}
	for p, row := range tidy.Next {
		for c, next := range row {
			digits := digitsOf(2, int64(c))
			letters := []string{"a", "b", ""}
			x.Edges = append(x.Edges, impl.Edge{From: int64(p), To: next, In: letters[digits[0]], Out: letters[digits[1]]})
		}
	}
	return naiveTrim(x)
}

func TestTransducerOf(t *testing.T) {
	d := dice(653)
	list := append(knownPairs(t), onlyPairs(t, []string{"a", "b"}, []string{"", ""}, []string{"ab", "b"}), padded(impl.SuccessorRelation()))
	for range 60 {
		list = append(list, randomRelation(&d, 2, 1+d.below(4)))
	}
	some := 0
	for _, r := range list {
		tidy := made(t)(impl.TidyRelation(r))
		got, code := impl.TransducerOf(r)
		want := naiveOf(tidy)
		if len(tidy.Next) > impl.MaxMachine || len(want.Edges) > impl.MaxEdges {
			isNoMachine(t, "TransducerOf", got, code, impl.ErrLimit)
			continue
		}
		some++
		sameMachine(t, "TransducerOf "+impl.RelationText(tidy), got, code, want)
		for _, words := range allTuples(2, 2) {
			if yes, _ := impl.Relates(got, words[0], words[1]); yes != takes(r, words) {
				t.Fatalf("%q: %v, by %s", words, yes, textOf(got))
			}
		}
	}
	if some < 50 {
		t.Errorf("only %d relations are transducers", some)
	}
	same, code := impl.TransducerOf(impl.EqualWords())
	sameMachine(t, "equal words", same, code, machineOf(0, "y", "0 0 a a", "0 0 b b"))
	one, code := impl.TransducerOf(onlyPairs(t, []string{"ab", "b"}))
	sameMachine(t, "one pair", one, code, machineOf(0, "nny", "0 1 a b", "1 2 b -"))
	begins, code := impl.TransducerOf(impl.IsPrefixRelation())
	sameMachine(t, "what begins a word", begins, code, machineOf(0, "yy", "0 0 a a", "0 1 - a", "0 0 b b", "0 1 - b", "1 1 - a", "1 1 - b"))
}

// The relation that takes nothing has one state, which is the start, and so it stays,
// with all edges from it to itself.
func TestTransducerOfNothing(t *testing.T) {
	none, code := impl.TransducerOf(nothing(2))
	sameMachine(t, "nothing", none, code, machineOf(0, "n",
		"0 0 a a", "0 0 b a", "0 0 - a", "0 0 a b", "0 0 b b", "0 0 - b", "0 0 a -", "0 0 b -"))
	for _, words := range allTuples(2, 2) {
		yes, _ := impl.Relates(none, words[0], words[1])
		equal(t, "Relates", yes, false)
	}
	in := made(t)(impl.InputsOf(none))
	equal(t, "its inputs", impl.RelationText(in), "relation 1 1 0\nno 0 0\n")
	functional, _ := impl.IsFunctional(none)
	equal(t, "it is functional", functional, true)
}

// crowded has a ring of so many states, with all columns of letters from each to the
// next one, and two states behind the end of a tape. Some edges of the last state of
// the ring are left out.
func crowded(n, left int64) impl.Relation {
	accept := make([]bool, n+3)
	accept[0], accept[n], accept[n+1] = true, true, true
	dead := n + 2
	r := madeBy(2, accept, func(state int64, digits []int64) int64 {
		first, second := digits[0] == 2, digits[1] == 2
		switch {
		case state == dead || state == n && !first || state == n+1 && !second:
			return dead
		case state == n-1 && columnOf(digits) >= 8-left:
			return dead
		case first:
			return n
		case second:
			return n + 1
		}
		return (state + 1) % n
	})
	return r
}

func TestLimitsOfTransducerOf(t *testing.T) {
	for _, c := range []struct {
		what         string
		r            impl.Relation
		tidy, states int
		edges        int
		code         int64
	}{
		{"40 tidy states", evenRing(2, 39), 40, 39, 156, impl.OK},
		{"41 tidy states, of which one is trimmed away", evenRing(2, 40), 41, 40, 160, impl.ErrLimit},
		{"148 tidy states", evenRing(2, 147), 148, 147, 588, impl.ErrLimit},
		{"200 edges", crowded(25, 4), 28, 27, 200, impl.OK},
		{"201 edges", crowded(25, 3), 28, 27, 201, impl.ErrLimit},
		{"196 edges", crowded(24, 0), 27, 26, 196, impl.OK},
		{"few edges of 312 before", ringOfOne(38), 39, 38, 38, impl.OK},
	} {
		tidy := made(t)(impl.TidyRelation(c.r))
		want := naiveOf(tidy)
		equal(t, c.what, []int{len(tidy.Next), len(want.Accept), len(want.Edges)}, []int{c.tidy, c.states, c.edges})
		got, code := impl.TransducerOf(c.r)
		if c.code != impl.OK {
			isNoMachine(t, c.what, got, code, c.code)
			continue
		}
		sameMachine(t, c.what, got, code, want)
	}
	// A relation whose tidy one would have more than MaxStates states.
	for _, r := range []impl.Relation{ring(150), turning(2, 150)} {
		_, code := impl.TidyRelation(r)
		got, limit := impl.TransducerOf(r)
		equal(t, "TidyRelation", code, int64(impl.ErrLimit))
		isNoMachine(t, "TransducerOf", got, limit, impl.ErrLimit)
	}
}

// ringOfOne takes the pairs of words with a multiple of n letters "a".
func ringOfOne(n int64) impl.Relation {
	accept := make([]bool, n+1)
	accept[0] = true
	return madeBy(2, accept, func(state int64, digits []int64) int64 {
		if state == n || columnOf(digits) != 0 {
			return n
		}
		return (state + 1) % n
	})
}

func TestErrorsOfTransducerOf(t *testing.T) {
	for _, r := range wrongRelations() {
		got, code := impl.TransducerOf(r)
		isNoMachine(t, "TransducerOf", got, code, impl.ErrInvalid)
	}
	for _, r := range []impl.Relation{everything(1), everything(3), nothing(1), chain(100), ring(150)} {
		got, code := impl.TransducerOf(r)
		if r.Tapes != 2 {
			isNoMachine(t, "TransducerOf", got, code, impl.ErrRange)
		}
	}
}
