package tests

import (
	"testing"

	"loop.example/g01168/impl"
)

// spread reads the words of the other tapes, with anything on one. It returns
// the states in which r may be if the word on this tape has ended before, and if
// it has as many letters as the longest other one, or may go on.
func spread(r impl.Relation, tape int64, others []string) (stopped, going map[int64]bool) {
	stopped, going = map[int64]bool{}, map[int64]bool{r.Start: true}
	for _, c := range numbersOf(others) {
		digits := digitsOf(r.Tapes-1, c)
		nextStopped, nextGoing := map[int64]bool{}, map[int64]bool{}
		pad := columnOf(inserted(digits, tape, 2))
		for s := range stopped {
			nextStopped[r.Next[s][pad]] = true
		}
		for s := range going {
			nextStopped[r.Next[s][pad]] = true
			nextGoing[r.Next[s][columnOf(inserted(digits, tape, 0))]] = true
			nextGoing[r.Next[s][columnOf(inserted(digits, tape, 1))]] = true
		}
		stopped, going = nextStopped, nextGoing
	}
	return stopped, going
}

// goOn returns the states that are reached by one more letter on the tape.
func goOn(r impl.Relation, tape int64, going map[int64]bool) map[int64]bool {
	next := map[int64]bool{}
	for letter := range int64(2) {
		column := columnOf(inserted([]int64{2, 2}[:r.Tapes-1], tape, letter))
		for s := range going {
			next[r.Next[s][column]] = true
		}
	}
	return next
}

func accepting(r impl.Relation, states map[int64]bool) (some, all bool) {
	all = true
	for s := range states {
		some = some || r.Accept[s]
		all = all && r.Accept[s]
	}
	return some, all
}

// takenWith tells whether r takes a tuple with some word, with every word, and
// with infinitely many: with one that is longer by n to 2n-1 letters, n being
// the number of states, because these can be found again and again.
func takenWith(r impl.Relation, tape int64, others []string) (some, all, many bool) {
	stopped, going := spread(r, tape, others)
	some, all = accepting(r, stopped)
	for i := range 2 * len(r.Next) {
		one, every := accepting(r, going)
		some, all, many = some || one, all && every, many || one && i >= len(r.Next)
		going = goOn(r, tape, going)
	}
	return some, all, many
}

// relationsWithTapes are some relations with two tapes or three.
func relationsWithTapes() []impl.Relation {
	var list []impl.Relation
	for _, r := range someRelations() {
		if r.Tapes > 1 {
			list = append(list, r)
		}
	}
	list = append(list, evenRing(2, 5), evenRing(3, 4), twice(6), ring(3), impl.IsPrefixRelation(), impl.OrderRelation(), impl.SuccessorRelation(), impl.EqualWords())
	d := dice(59)
	for range 150 {
		tapes := 2 + d.below(2)
		r := randomRelation(&d, tapes, 2+d.below(5))
		if d.below(2) == 0 {
			r = cutOff(r, &d)
		}
		list = append(list, r)
	}
	for range 10 {
		list = append(list, randomRelation(&d, 2, 10+d.below(30)))
	}
	return list
}

// isSomeOn compares SomeOn with the automaton of sets of tidy states. It returns
// the number of these, and of the states that come out.
func isSomeOn(t *testing.T, got impl.Relation, code int64, r impl.Relation, tape int64) (sets, size int) {
	t.Helper()
	automaton := naiveSets(naiveTidy(r), tape)
	sets = len(automaton.Accept)
	return sets, isMade(t, "SomeOn", got, code, automaton, sets)
}

// isAllOn does so for AllOn.
func isAllOn(t *testing.T, got impl.Relation, code int64, r impl.Relation, tape int64) (sets, size int) {
	t.Helper()
	automaton := naiveSets(naiveTidy(naiveOpposite(r)), tape)
	sets = len(automaton.Accept)
	return sets, isMade(t, "AllOn", got, code, naiveOpposite(automaton), sets)
}

func TestSomeOn(t *testing.T) {
	seen := map[int64]int{}
	for _, r := range relationsWithTapes() {
		for tape := range r.Tapes {
			got, code := impl.SomeOn(r, tape)
			seen[code]++
			isSomeOn(t, got, code, r, tape)
			if code != impl.OK {
				continue
			}
			for _, words := range allTuples(got.Tapes, 2) {
				if some, _, _ := takenWith(r, tape, words); takes(got, words) != some {
					t.Fatalf("SomeOn of %v and %d: %q", r, tape, words)
				}
			}
		}
	}
	if seen[impl.OK] < 100 || seen[impl.ErrLimit] < 3 {
		t.Errorf("codes %v, so the test tells little", seen)
	}
}

func TestAllOn(t *testing.T) {
	seen := map[int64]int{}
	for _, r := range relationsWithTapes() {
		for tape := range r.Tapes {
			got, code := impl.AllOn(r, tape)
			seen[code]++
			isAllOn(t, got, code, r, tape)
			if code != impl.OK {
				continue
			}
			for _, words := range allTuples(got.Tapes, 2) {
				if _, all, _ := takenWith(r, tape, words); takes(got, words) != all {
					t.Fatalf("AllOn of %v and %d: %q", r, tape, words)
				}
			}
		}
	}
	if seen[impl.OK] < 100 || seen[impl.ErrLimit] < 3 {
		t.Errorf("codes %v, so the test tells little", seen)
	}
}

func TestManyOn(t *testing.T) {
	seen := map[int64]int{}
	answers := map[bool]int{}
	for _, r := range relationsWithTapes() {
		for tape := range r.Tapes {
			got, code := impl.ManyOn(r, tape)
			if r.Tapes == impl.MaxTapes {
				equal(t, "ManyOn of three tapes", code, int64(impl.ErrRange))
				equal(t, "ManyOn of three tapes", got, impl.Relation{})
				continue
			}
			seen[code]++
			isStepped(t, "ManyOn", got, code, r, manyOn(tape)...)
			if code != impl.OK {
				continue
			}
			for _, words := range allTuples(1, 4) {
				_, _, many := takenWith(r, tape, words)
				answers[many]++
				if takes(got, words) != many {
					t.Fatalf("ManyOn of %v and %d: %q", r, tape, words)
				}
			}
		}
	}
	if seen[impl.OK] < 50 || seen[impl.ErrLimit] < 1 || answers[true] < 300 || answers[false] < 300 {
		t.Errorf("codes %v, answers %v, so the test tells little", seen, answers)
	}
}

type step = func(r impl.Relation) (impl.Relation, int64)

func someOn(tape int64) step {
	return func(r impl.Relation) (impl.Relation, int64) { return impl.SomeOn(r, tape) }
}

// shorter takes the tuples of three words of which the last one is shorter than
// another one.
func shorter(tape int64) impl.Relation {
	return madeBy(3, []bool{false, true, false}, func(state int64, digits []int64) int64 {
		if (digits[2] == 2) == (digits[tape] == 2) {
			return state
		} else if digits[2] == 2 {
			return 1
		}
		return 2
	})
}

// manyOn are the steps of ManyOn for two tapes, each one a function of the chapter.
func manyOn(tape int64) []step {
	return []step{
		func(r impl.Relation) (impl.Relation, int64) { return impl.AddTape(r, 2) },
		func(r impl.Relation) (impl.Relation, int64) { return impl.BothRelations(r, shorter(tape)) },
		someOn(tape),
		func(r impl.Relation) (impl.Relation, int64) { return impl.AllOn(r, 1) },
	}
}

// isStepped compares what a function has returned with the steps of which the
// document tells. It returns the number of the step that fails, or one more than
// the last one.
func isStepped(t *testing.T, name string, got impl.Relation, code int64, r impl.Relation, steps ...step) int {
	t.Helper()
	want := r
	for i, next := range steps {
		var fault int64
		want, fault = next(want)
		if fault != impl.OK {
			equal(t, name+": code", code, fault)
			equal(t, name+": relation with an error", got, impl.Relation{})
			return i
		}
	}
	equal(t, name+": code", code, int64(impl.OK))
	equal(t, name, got, want)
	return len(steps)
}

// branches reads a word of before times "a", and then any further "a". The first
// letter of the second word behind the first part tells which of two words it
// has to go on with, which come again and again: "b" is at each p-th or at each
// q-th place. Both words are as long. All sets of states that are met are one for
// each number of letters up to before, those of both places, and the empty one.
func branches(before, p, q int64) impl.Relation {
	first, second := before+1, before+1+p
	dead := second + q
	accept := make([]bool, dead+1)
	for s := range dead {
		accept[s] = true
	}
	return madeBy(2, accept, func(state int64, digits []int64) int64 {
		switch {
		case state == dead || digits[0] != 0 || digits[1] == 2:
			return dead
		case state < before:
			return state + 1
		case state == before && digits[1] == 0:
			return first
		case state == before:
			return second
		case state < second:
			return turned(state-first, p, digits[1], first, dead)
		}
		return turned(state-second, q, digits[1], second, dead)
	})
}

// turned is the state behind a place of a circle of n states.
func turned(at, n, letter, from, dead int64) int64 {
	if (at == n-1) != (letter == 1) {
		return dead
	}
	return from + (at+1)%n
}

func TestSomeOnLimitsOfSets(t *testing.T) {
	for _, c := range []struct {
		before, p, q int64
		sets         int
	}{
		{6, 31, 32, impl.MaxRaw},
		{7, 31, 32, impl.MaxRaw + 1},
		{8, 31, 32, impl.MaxRaw + 2},
		{0, 14, 71, 996},
		{2, 12, 83, 1000},
		{3, 12, 83, 1001},
		{20, 63, 65, 4097 + 20},
	} {
		for tape := range int64(2) {
			r := branches(c.before, c.p, c.q)
			if tape == 0 {
				r = naiveMove(r, []int64{1, 0})
			}
			if 2*len(r.Next) < impl.MaxStates {
				r = padded(r)
			}
			got, code := impl.SomeOn(r, tape)
			sets, _ := isSomeOn(t, got, code, r, tape)
			equal(t, "sets", sets, c.sets)
			equal(t, "code", code == impl.OK, c.sets <= impl.MaxRaw)
			if code == impl.OK {
				equal(t, "all words of a", got, lasso(0, 1))
			}
		}
	}
}

// counted is like branches, but a second word may be any, and both have to end
// at the first place of a circle.
func counted(before, p, q int64) impl.Relation {
	r := branches(before, p, q)
	first, second := before+1, before+1+p
	dead := second + q
	for s := range dead {
		r.Accept[s] = s == first || s == second
		if s >= first {
			next := first + (s-first+1)%p
			if s >= second {
				next = second + (s-second+1)%q
			}
			r.Next[s][0], r.Next[s][3] = next, next
		}
	}
	return r
}

func TestSomeOnLimitsOfTheResult(t *testing.T) {
	seen := map[int]bool{}
	for before := range int64(8) {
		for _, pq := range [][2]int64{{4, 37}, {11, 13}, {12, 13}, {2, 3}} {
			r := counted(before, pq[0], pq[1])
			got, code := impl.SomeOn(r, 1)
			_, size := isSomeOn(t, got, code, r, 1)
			seen[size] = true
			opposite := naiveOpposite(r)
			got, code = impl.AllOn(opposite, 1)
			isAllOn(t, got, code, opposite, 1)
		}
	}
	equal(t, "MaxStates has been reached", seen[impl.MaxStates], true)
	equal(t, "and exceeded by one", seen[impl.MaxStates+1], true)
}

// turning takes the tuples of which the number of columns is a multiple of n. Its
// tidy relation has n states for each list of tapes that may have ended, and one more.
func turning(tapes, n int64) impl.Relation {
	accept := make([]bool, n)
	accept[0] = true
	return madeBy(tapes, accept, func(state int64, digits []int64) int64 { return (state + 1) % n })
}

// A tidy relation on the way may have more than MaxStates states, and so may an
// opposite: only sets, and what comes out, are limited.
func TestWordsOnTapesOfLargeRelations(t *testing.T) {
	for _, r := range []impl.Relation{turning(2, 49), turning(2, 50), turning(2, 150), turning(3, 21), turning(3, 22), turning(3, 30), ring(147), ring(148), ring(150)} {
		for tape := range r.Tapes {
			got, code := impl.SomeOn(r, tape)
			isSomeOn(t, got, code, r, tape)
			got, code = impl.AllOn(r, tape)
			isAllOn(t, got, code, r, tape)
		}
	}
	equal(t, "words for which there is one", made(t)(impl.SomeOn(turning(2, 150), 0)), everything(1))
	equal(t, "words for which there are all", made(t)(impl.AllOn(turning(2, 150), 1)), nothing(1))
	equal(t, "pairs for which there is one", made(t)(impl.SomeOn(turning(3, 150), 2)), made(t)(impl.AllTuples(2)))
	equal(t, "pairs for which there are all", made(t)(impl.AllOn(turning(3, 150), 0)), nothing(2))
	equal(t, "states of a tidy relation", tidySize(turning(3, 150)), 7*150+1)
}

// The relation that comes out of AllOn is limited, its opposite is not.
func TestAllOnLimits(t *testing.T) {
	seen := map[int]bool{}
	for n := int64(144); n <= 149; n++ {
		some := evenRing(2, n)
		for _, r := range []impl.Relation{some, naiveOpposite(some)} {
			for tape := range int64(3) {
				added := naiveAdd(r, tape)
				got, code := impl.AllOn(added, tape)
				_, size := isAllOn(t, got, code, added, tape)
				equal(t, "states", size, tidySize(r))
				seen[size] = true
			}
		}
		equal(t, "its opposite has more states", tidySize(naiveOpposite(some)), tidySize(some)+2)
	}
	for size := impl.MaxStates - 2; size <= impl.MaxStates+1; size++ {
		equal(t, "so many states would come out", seen[size], true)
	}
	for before := int64(6); before < 8; before++ {
		opposite := naiveOpposite(branches(before, 31, 32))
		got, code := impl.AllOn(opposite, 1)
		sets, _ := isAllOn(t, got, code, opposite, 1)
		equal(t, "sets", sets, impl.MaxRaw-6+int(before))
		equal(t, "code", code == impl.OK, before == 6)
	}
}

// ends takes two words, the second one shorter, if there is a "b" in the first one
// where the second one ends, and a multiple of n letters from there on.
func ends(n int64) impl.Relation {
	accept := make([]bool, n+2)
	accept[n] = true
	return madeBy(2, accept, func(state int64, digits []int64) int64 {
		switch {
		case digits[0] == 2 || state == 0 && digits[1] == 2 && digits[0] == 0:
			return n + 1
		case state == 0 && digits[1] != 2 || state == n+1:
			return state
		}
		return state%n + 1
	})
}

// lots takes pairs of a word of n times "a" and of any word that begins with it.
func lots(n int64) impl.Relation {
	accept := make([]bool, n+2)
	accept[n] = true
	return madeBy(2, accept, func(state int64, digits []int64) int64 {
		switch {
		case state < n && digits[0] == 0 && digits[1] == 0:
			return state + 1
		case state == n && digits[0] == 2:
			return n
		}
		return n + 1
	})
}

// ManyOn fails at its first, third or fourth step. (The second one makes at most
// 150 * 6 pairs.)
func TestManyOnLimits(t *testing.T) {
	seen := map[int]int{}
	equal(t, "states", tidySize(shorter(1)), 6)
	var list []impl.Relation
	for n := int64(10); n <= 60; n += 10 {
		list = append(list, lots(n), evenRing(2, n), ring(n), twice(n), naiveAdd(lasso(0, n), 1))
	}
	list = append(list, evenRing(2, 74), evenRing(2, 75), twice(73), twice(74))
	for before := range int64(8) {
		list = append(list, counted(before, 12, 13))
	}
	list = append(list, ends(5), ends(6), ends(7))
	for _, r := range list {
		got, code := impl.ManyOn(r, 1)
		seen[isStepped(t, "ManyOn", got, code, r, manyOn(1)...)]++
	}
	for _, at := range []int{0, 2, 3, 4} {
		equal(t, "this step has failed, or none", seen[at] > 0, true)
	}
}

func TestErrorsOfWordsOnATape(t *testing.T) {
	three := evenRing(3, 2)
	for _, c := range []struct {
		name string
		some func(r impl.Relation, tape int64) (impl.Relation, int64)
		most int64
	}{{"SomeOn", impl.SomeOn, 3}, {"AllOn", impl.AllOn, 3}, {"ManyOn", impl.ManyOn, 2}} {
		for _, r := range wrongRelations() {
			for _, tape := range []int64{-1, 0, 5} {
				equal(t, c.name, codeOf(c.some(r, tape)), int64(impl.ErrInvalid))
			}
		}
		for _, r := range []impl.Relation{evenA(), evenRing(2, 2), three, ring(148)} {
			for _, tape := range []int64{-1 << 63, -1, 0, 1, 2, 3, 1 << 62} {
				want := int64(impl.OK)
				if r.Tapes == 1 || r.Tapes > c.most || tape < 0 || tape >= r.Tapes {
					want = impl.ErrRange
				} else if len(r.Next) == 148 && c.name == "ManyOn" {
					want = impl.ErrLimit
				}
				got, code := c.some(r, tape)
				equal(t, c.name, code, want)
				equal(t, c.name, impl.ValidRelation(got), code == impl.OK)
			}
		}
	}
}

func TestWordsOnTapesOfNothingAndEverything(t *testing.T) {
	for tapes := int64(2); tapes <= 3; tapes++ {
		all, none := made(t)(impl.AllTuples(tapes-1)), nothing(tapes-1)
		for tape := range tapes {
			equal(t, "SomeOn of everything", made(t)(impl.SomeOn(everything(tapes), tape)), all)
			equal(t, "AllOn of everything", made(t)(impl.AllOn(everything(tapes), tape)), all)
			equal(t, "SomeOn of nothing", made(t)(impl.SomeOn(nothing(tapes), tape)), none)
			equal(t, "AllOn of nothing", made(t)(impl.AllOn(nothing(tapes), tape)), none)
		}
	}
	for tape := range int64(2) {
		equal(t, "ManyOn of everything", made(t)(impl.ManyOn(everything(2), tape)), everything(1))
		equal(t, "ManyOn of nothing", made(t)(impl.ManyOn(nothing(2), tape)), nothing(1))
		equal(t, "ManyOn of equal words", made(t)(impl.ManyOn(impl.EqualWords(), tape)), nothing(1))
		equal(t, "ManyOn of some pairs", made(t)(impl.ManyOn(twice(5), tape)), nothing(1))
	}
	equal(t, "words with infinitely many before them", made(t)(impl.ManyOn(impl.OrderRelation(), 0)), nothing(1))
	equal(t, "words with infinitely many behind them", made(t)(impl.ManyOn(impl.OrderRelation(), 1)), everything(1))
}

// The word that is told may be much longer than all others.
func TestWordsThatAreLonger(t *testing.T) {
	for n := int64(1); n <= 60; n += 7 {
		r := naiveAdd(chain(n), 0)
		equal(t, "SomeOn", made(t)(impl.SomeOn(r, 1)), everything(1))
		equal(t, "AllOn of the opposite", made(t)(impl.AllOn(naiveOpposite(r), 1)), nothing(1))
		if n > 30 {
			continue
		}
		equal(t, "ManyOn", made(t)(impl.ManyOn(r, 1)), nothing(1))
		three := naiveAdd(naiveAdd(chain(n), 0), 2)
		equal(t, "SomeOn", made(t)(impl.SomeOn(three, 1)), made(t)(impl.AllTuples(2)))
	}
}
