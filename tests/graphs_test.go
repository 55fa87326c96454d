package tests

import (
	"slices"
	"testing"

	"loop.example/g01168/impl"
)

// graph is a domain with a relation of two tapes. Its methods tell of its elements
// what the document tells in chapter 4, and use nothing of the program but its
// types, unless they say so.
type graph struct{ d, r impl.Relation }

func (g graph) presentation(further ...impl.Relation) impl.Presentation {
	return impl.Presentation{Domain: g.d, Relations: append([]impl.Relation{g.r}, further...)}
}

func (g graph) has(w string) bool { return takes(g.d, []string{w}) }

// links tells whether the relation has a pair of elements.
func (g graph) links(v, w string) bool { return g.has(v) && g.has(w) && takes(g.r, []string{v, w}) }

// elements are those with at most n letters, in order.
func (g graph) elements(n int) []string {
	return slices.DeleteFunc(wordsUpTo(n), func(w string) bool { return !g.has(w) })
}

// pairs is an automaton of any size that takes the pairs of elements.
func (g graph) pairs() impl.Relation {
	return naiveTidy(naivePairs(naivePairs(g.r, naiveAdd(g.d, 1), takesBoth), naiveAdd(g.d, 0), takesBoth))
}

// naiveBoth is an automaton of three tapes: of pairs of the first tape and of a
// second one, and of pairs of this and of the last one.
func naiveBoth(r, s impl.Relation) impl.Relation {
	return naivePairs(naiveAdd(r, 2), naiveAdd(s, 0), takesBoth)
}

// naiveTurned exchanges both tapes.
func naiveTurned(r impl.Relation) impl.Relation { return naiveMove(r, []int64{1, 0}) }

// differing takes the pairs of words of one length with at most n different
// letters.
func differing(n int64) impl.Relation {
	accept := make([]bool, n+2)
	for i := range n + 1 {
		accept[i] = true
	}
	return madeBy(2, accept, func(state int64, digits []int64) int64 {
		if slices.Contains(digits, 2) || state > n {
			return n + 1
		}
		if digits[0] != digits[1] {
			return state + 1
		}
		return state
	})
}

// sameRest takes the pairs of words of which the lengths leave the same rest when
// they are divided by n.
func sameRest(n int64) impl.Relation {
	accept := make([]bool, n)
	accept[0] = true
	return madeBy(2, accept, func(state int64, digits []int64) int64 {
		switch {
		case digits[0] == 2:
			return (state + 1) % n
		case digits[1] == 2:
			return (state + n - 1) % n
		}
		return state
	})
}

// sameCount takes the pairs of words of which the numbers of "a" are both even or
// both odd.
func sameCount() impl.Relation {
	return madeBy(2, []bool{true, false}, func(state int64, digits []int64) int64 {
		for _, digit := range digits {
			if digit == 0 {
				state = 1 - state
			}
		}
		return state
	})
}

// sameLast takes the pairs of words that end with the same letter, or are both
// empty. Its states tell how each of both has ended so far.
func sameLast() impl.Relation {
	accept := make([]bool, 9)
	for i := range int64(3) {
		accept[4*i] = true
	}
	r := madeBy(2, accept, func(state int64, digits []int64) int64 {
		last := []int64{state % 3, state / 3}
		for t, digit := range digits {
			if digit != 2 {
				last[t] = digit
			}
		}
		return last[0] + 3*last[1]
	})
	r.Start = 8
	return r
}

// byRank takes the pairs of different words of which the first one has the lower
// rank where they differ first, "a", "b" and the pad having these ranks.
func byRank(ranks [3]int) impl.Relation {
	const same, before, after = 0, 1, 2
	return madeBy(2, []bool{false, true, false}, func(state int64, digits []int64) int64 {
		switch {
		case state != same || digits[0] == digits[1]:
			return state
		case ranks[digits[0]] < ranks[digits[1]]:
			return before
		}
		return after
	})
}

// asWritten is the order of a dictionary. For all words it is not dense: nothing
// is between a word and this with one "a" more.
func asWritten() impl.Relation { return byRank([3]int{1, 2, 0}) }

// inTree has what a word begins with in the middle, so it is dense for all words.
func inTree() impl.Relation { return byRank([3]int{0, 2, 1}) }

// endingInB takes the words that end with "b".
func endingInB() impl.Relation {
	return impl.Relation{Tapes: 1, Accept: []bool{false, true}, Next: [][]int64{{0, 1}, {0, 1}}}
}

// chainsOf takes the words with one letter alone.
func chainsOf(letter string) impl.Relation {
	r := impl.Relation{Tapes: 1, Accept: []bool{true, false}, Next: [][]int64{{0, 1}, {1, 1}}}
	if letter == "b" {
		slices.Reverse(r.Next[0])
	}
	return r
}

// pairsWith takes the pairs of the empty word and of what a relation of one tape
// takes.
func pairsWith(r impl.Relation) impl.Relation {
	dead := int64(len(r.Next))
	s := madeBy(2, append(slices.Clone(r.Accept), false), func(state int64, digits []int64) int64 {
		if state == dead || digits[0] != 2 {
			return dead
		}
		return r.Next[state][digits[1]]
	})
	s.Start = r.Start
	return s
}

// butFor takes what r takes, but for some tuples. It is made by the program.
func butFor(t *testing.T, r impl.Relation, tuples ...[]string) impl.Relation {
	t.Helper()
	return made(t)(impl.WithoutRelation(r, made(t)(impl.RelationOf(r.Tapes, tuples))))
}

func lengths(t *testing.T, kind int64) impl.Relation {
	t.Helper()
	return made(t)(impl.LengthRelation(kind))
}

// knownPairs are relations of two tapes with few states.
func knownPairs(t *testing.T) []impl.Relation {
	t.Helper()
	list := equivalences(t)
	list = append(list, impl.IsPrefixRelation(), impl.OrderRelation(), impl.SuccessorRelation(), inverseOf(t, impl.SuccessorRelation()))
	list = append(list, lengths(t, impl.RlLess), lengths(t, impl.RlAtMost), nothing(2), evenRing(2, 2), ring(2), asWritten(), inTree(), differing(1))
	return append(list, sameLast(), pairsWith(evenA()), naiveOpposite(sameLast()), padded(impl.IsPrefixRelation()))
}

func inverseOf(t *testing.T, r impl.Relation) impl.Relation {
	t.Helper()
	return made(t)(impl.InverseRelation(r))
}

// equivalences are such for all words, and so for those of each domain.
func equivalences(t *testing.T) []impl.Relation {
	t.Helper()
	return []impl.Relation{impl.EqualWords(), lengths(t, impl.RlEqual), everything(2), sameRest(2), sameRest(3), sameCount(), padded(sameRest(2))}
}

// someDomains have infinitely many elements, only so many, or none.
func someDomains(t *testing.T) []impl.Relation {
	t.Helper()
	few := listed(t, []string{"", "a", "b", "ab"})
	return []impl.Relation{everything(1), evenA(), few, nothing(1), padded(evenA()), circle(2), lasso(1, 1), endingInB(), listed(t, []string{"ba"})}
}

func smallGraphs(t *testing.T) []graph {
	t.Helper()
	var list []graph
	d := dice(103)
	for _, domain := range someDomains(t) {
		for _, r := range knownPairs(t) {
			list = append(list, graph{domain, r})
		}
		for range 8 {
			list = append(list, graph{domain, randomRelation(&d, 2, 1+d.below(3))})
		}
	}
	return list
}

// largeGraphs are ErrLimit now and then, each time for another reason.
func largeGraphs() []graph {
	d := dice(107)
	var list []graph
	domains := []impl.Relation{everything(1), firstWords(20), chain(20), circle(12), lasso(3, 5), circle(31), circle(32), randomRelation(&d, 1, 9)}
	for _, domain := range domains {
		for _, r := range []impl.Relation{ring(20), ring(148), turning(2, 50), evenRing(2, 30), twice(12), differing(9), sameRest(9), pairsWith(circle(25)), pairsWith(circle(80))} {
			list = append(list, graph{domain, r})
		}
		for range 8 {
			list = append(list, graph{domain, randomRelation(&d, 2, 2+d.below(12))})
		}
	}
	return list
}

// someGraphs are some of both.
func someGraphs(t *testing.T) []graph {
	t.Helper()
	var list []graph
	for i, g := range append(smallGraphs(t), largeGraphs()...) {
		if i%3 == 0 {
			list = append(list, g)
		}
	}
	return list
}

// isToldRelation compares a relation and its code with what the document tells by
// functions of chapters 2 and 3.
func isToldRelation(t *testing.T, what string, got impl.Relation, code int64, want impl.Relation, wanted int64) {
	t.Helper()
	if code != wanted || !impl.SameRelation(got, want) {
		t.Fatalf("%s: %v, %d, but it is %v, %d", what, got, code, want, wanted)
	}
}
