package tests

import (
	"math"
	"slices"
	"strings"
	"testing"

	"loop.example/g01168/impl"
)

func isDistance(t *testing.T, g graph, v, w string, most, want, code int64) {
	t.Helper()
	steps, second := impl.DistanceOf(g.d, g.r, v, w, most)
	equal(t, "DistanceOf "+v+" and "+w, []any{steps, second}, []any{want, code})
}

// reachedBy is what is reached from an element by some steps, as automata of any
// size.
func reachedBy(g graph, w string, steps int) []impl.Relation {
	pairs := g.pairs()
	alone := impl.Relation{Tapes: 1}
	for i := range len(w) + 2 {
		row := []int64{int64(len(w)) + 1, int64(len(w)) + 1}
		if i < len(w) {
			row[w[i]-'a'] = int64(i) + 1
		}
		alone.Accept = append(alone.Accept, i == len(w))
		alone.Next = append(alone.Next, row)
	}
	list := []impl.Relation{alone}
	for range steps {
		middle := naivePairs(naiveAdd(list[len(list)-1], 1), pairs, takesBoth)
		list = append(list, naiveTidy(naiveSets(naiveTidy(middle), 0)))
	}
	return list
}

// What is behind some steps is taken, and the least number of steps is the distance.
func TestStepsAndDistances(t *testing.T) {
	const steps = 4
	seen := map[int64]int{}
	for _, g := range smallGraphs(t) {
		for _, v := range g.elements(1) {
			reached := reachedBy(g, v, steps)
			for n, want := range reached {
				got, code := impl.BehindSteps(g.d, g.r, v, int64(n))
				equal(t, "code of BehindSteps", code, int64(impl.OK))
				if faultOf(got) != "" || !takeTheSame(got, want) {
					t.Fatalf("BehindSteps %v, %q and %d: %v", g, v, n, got)
				}
			}
			for _, w := range g.elements(2) {
				least := slices.IndexFunc(reached, func(r impl.Relation) bool { return takes(r, []string{w}) })
				if least < 0 {
					isDistance(t, g, v, w, steps, 0, impl.ErrNotFound)
				} else {
					isDistance(t, g, v, w, steps, int64(least), impl.OK)
					isDistance(t, g, v, w, int64(least), int64(least), impl.OK)
				}
				if least > 0 {
					isDistance(t, g, v, w, int64(least)-1, 0, impl.ErrNotFound)
				}
				seen[int64(least)]++
			}
		}
		if t.Failed() {
			t.Fatalf("in %v", g)
		}
	}
	if seen[-1] < 50 || seen[0] < 50 || seen[1] < 50 || seen[2] < 5 {
		t.Errorf("distances %v, so the test tells little", seen)
	}
}

// Among few elements, distances are looked for from element to element.
func TestDistancesAmongFewElements(t *testing.T) {
	d := dice(113)
	seen := map[int]int{}
	for range 60 {
		words := wordsUpTo(2)
		g := graph{listed(t, words), arrows(t, &d, words)}
		for _, v := range words {
			distances := map[string]int{v: 0}
			for list := []string{v}; len(list) > 0; list = list[1:] {
				for _, w := range words {
					if _, known := distances[w]; !known && g.links(list[0], w) {
						distances[w] = distances[list[0]] + 1
						list = append(list, w)
					}
				}
			}
			for _, w := range words {
				steps, reached := distances[w]
				if !reached {
					isDistance(t, g, v, w, impl.MaxSteps, 0, impl.ErrNotFound)
					steps = -1
				} else {
					isDistance(t, g, v, w, impl.MaxSteps, int64(steps), impl.OK)
				}
				seen[steps]++
			}
		}
	}
	if seen[-1] < 100 || seen[3] < 20 || seen[5] < 1 {
		t.Errorf("distances %v, so the test tells little", seen)
	}
}

// arrows links each word to one or two others, or to none.
func arrows(t *testing.T, d *dice, words []string) impl.Relation {
	t.Helper()
	var pairs [][]string
	for _, w := range words {
		for range d.below(3) {
			pairs = append(pairs, []string{w, words[d.below(int64(len(words)))]})
		}
	}
	return made(t)(impl.RelationOf(2, pairs))
}

// inOrderOfWords returns the word with so many before it.
func inOrderOfWords(n int) string { return wordsUpTo(4)[n] }

func TestStepsOfKnownRelations(t *testing.T) {
	all := everything(1)
	next := graph{all, impl.SuccessorRelation()}
	back := graph{all, inverseOf(t, impl.SuccessorRelation())}
	for n := range impl.MaxSteps + 1 {
		w := inOrderOfWords(n)
		isToldRelation(t, "BehindSteps", made(t)(impl.BehindSteps(all, next.r, "", int64(n))), impl.OK, listed(t, []string{w}), impl.OK)
		isDistance(t, next, "", w, impl.MaxSteps, int64(n), impl.OK)
		isDistance(t, back, w, "", int64(n), int64(n), impl.OK)
		isToldRelation(t, "BehindSteps", made(t)(impl.BehindSteps(all, back.r, w, int64(n))), impl.OK, listed(t, []string{""}), impl.OK)
	}
	beyond := inOrderOfWords(impl.MaxSteps + 1)
	isDistance(t, next, "", beyond, impl.MaxSteps, 0, impl.ErrNotFound)
	isDistance(t, next, "", beyond, impl.MaxSteps+1, 0, impl.ErrRange)
	isDistance(t, next, "a", beyond, impl.MaxSteps, impl.MaxSteps, impl.OK)
	isDistance(t, next, "a", "", impl.MaxSteps, 0, impl.ErrNotFound)
	isDistance(t, back, "", "a", impl.MaxSteps, 0, impl.ErrNotFound)
	long := strings.Repeat("b", impl.MaxWord)
	isDistance(t, next, long, long, 0, 0, impl.OK)
	isDistance(t, back, long, strings.Repeat("b", impl.MaxWord-1)+"a", 1, 1, impl.OK)
	isDistance(t, graph{all, lengths(t, impl.RlLess)}, "b", long, 5, 1, impl.OK)
	isDistance(t, graph{all, nextLengths(t)}, "b", "aabba", 5, 4, impl.OK)
	isDistance(t, graph{all, nextLengths(t)}, "b", "aabba", 3, 0, impl.ErrNotFound)
	isDistance(t, graph{all, differing(1)}, "aaaaa", "babab", 12, 3, impl.OK)
	isDistance(t, graph{all, everything(2)}, "aaaaa", "", 1, 1, impl.OK)
	isDistance(t, graph{all, everything(2)}, "aaaaa", "aaaaa", 1, 0, impl.OK)
	isDistance(t, graph{all, nothing(2)}, "ab", "ab", 0, 0, impl.OK)
	isDistance(t, graph{all, nothing(2)}, "ab", "b", impl.MaxSteps, 0, impl.ErrNotFound)
	isDistance(t, graph{evenA(), next.r}, "", "b", impl.MaxSteps, 0, impl.ErrNotFound)
	isDistance(t, graph{evenA(), impl.OrderRelation()}, "", "aab", impl.MaxSteps, 1, impl.OK)
	isDistance(t, graph{evenA(), next.r}, "", "a", impl.MaxSteps, 0, impl.ErrNotFound)
}

// toldSteps follows the document by calls of functions of chapters 2 and 3.
func toldSteps(g graph, w string, steps int64) (impl.Relation, int64) {
	reached, code := impl.RelationOf(1, [][]string{{w}})
	for range steps {
		pairs, second := impl.AnswersTo(g.presentation(), "R0(xy)")
		if code = second; code != impl.OK {
			return impl.Relation{}, code
		}
		if reached, code = impl.AddTape(reached, 1); code != impl.OK {
			return impl.Relation{}, code
		}
		if reached, code = impl.BothRelations(pairs, reached); code != impl.OK {
			return impl.Relation{}, code
		}
		if reached, code = impl.SomeOn(reached, 0); code != impl.OK {
			return impl.Relation{}, code
		}
	}
	return reached, code
}

// Limits are told when they are met, from few steps to many.
func TestStepsAsTold(t *testing.T) {
	seen := map[int64]int{}
	long := strings.Repeat("ab", impl.MaxWord/2)
	for i, g := range someGraphs(t) {
		for _, v := range []string{"", "bb", long} {
			if !g.has(v) || v == long && i%3 != 0 {
				continue
			}
			limited := int64(impl.MaxSteps + 1)
			for n := range int64(impl.MaxSteps + 1) {
				if i%2 == 1 && n%4 != 0 {
					continue
				}
				want, code := toldSteps(g, v, n)
				got, second := impl.BehindSteps(g.d, g.r, v, n)
				isToldRelation(t, "BehindSteps", got, second, want, code)
				if code == impl.ErrLimit {
					limited = min(limited, n)
				}
				seen[code]++
			}
			if i%2 == 0 {
				isDistanceUpTo(t, g, v, limited)
			}
		}
	}
	if seen[impl.OK] < 500 || seen[impl.ErrLimit] < 100 {
		t.Errorf("codes %v, so the test tells little", seen)
	}
}

// isDistanceUpTo looks at distances to some elements, if a limit is met at some step.
func isDistanceUpTo(t *testing.T, g graph, v string, limited int64) {
	t.Helper()
	for _, w := range g.elements(1) {
		for _, most := range []int64{0, 1, 3, impl.MaxSteps} {
			want, code := int64(0), int64(impl.ErrNotFound)
			for n := range min(limited, most+1) {
				reached, _ := impl.BehindSteps(g.d, g.r, v, n)
				if takes(reached, []string{w}) {
					want, code = n, impl.OK
					break
				}
			}
			if code == impl.ErrNotFound && limited <= most {
				code = impl.ErrLimit
			}
			isDistance(t, g, v, w, most, want, code)
		}
	}
}

func TestLimitsOfSteps(t *testing.T) {
	all := everything(1)
	for _, c := range []struct {
		name    string
		g       graph
		w       string
		limited int64
	}{
		{"no pairs can be found", graph{all, ring(148)}, "", 1},
		{"pairs can be found", graph{all, ring(147)}, "", impl.MaxSteps + 1},
		{"the second step has too many pairs", graph{all, pairsWith(circle(25))}, "", 2},
		{"the second step has few pairs", graph{all, pairsWith(circle(5))}, "", impl.MaxSteps + 1},
		{"a tape cannot be added", graph{all, differing(1)}, strings.Repeat("a", impl.MaxWord), 2},
		{"a tape can be added", graph{all, differing(1)}, strings.Repeat("a", 10), impl.MaxSteps + 1},
	} {
		for n := range int64(impl.MaxSteps + 1) {
			want := int64(impl.OK)
			if n >= c.limited {
				want = impl.ErrLimit
			}
			equal(t, c.name, codeOf(impl.BehindSteps(c.g.d, c.g.r, c.w, n)), want)
		}
		isDistanceUpTo(t, c.g, c.w, c.limited)
	}
	step := graph{all, pairsWith(circle(25))}
	far := strings.Repeat("b", 25)
	isDistance(t, step, "", far, impl.MaxSteps, 1, impl.OK)
	isDistance(t, step, "", "a", 1, 0, impl.ErrNotFound)
	isDistance(t, step, "", "a", 2, 0, impl.ErrLimit)
	none := graph{all, ring(148)}
	isDistance(t, none, "ab", "ab", impl.MaxSteps, 0, impl.OK)
	isDistance(t, none, "ab", "b", 0, 0, impl.ErrNotFound)
	isDistance(t, none, "ab", "b", 1, 0, impl.ErrLimit)
}

// onlyFirst takes the pairs of words of one length, "a" and "b" being the first
// letters, of which at most one further letter is different.
func onlyFirst() impl.Relation {
	const start, same, other, dead = 0, 1, 2, 3
	return madeBy(2, []bool{same: true, other: true, dead: false}, func(state int64, digits []int64) int64 {
		switch {
		case state == start && slices.Equal(digits, []int64{0, 1}):
			return same
		case state == start || slices.Contains(digits, 2) || state == dead:
			return dead
		case digits[0] != digits[1]:
			return state + 1
		}
		return state
	})
}

// The states of what is reached, with a tape added, are limited too, also if
// nothing is reached from there.
func TestLimitsOfTheTapeThatIsAdded(t *testing.T) {
	g := graph{everything(1), onlyFirst()}
	w := strings.Repeat("a", impl.MaxWord)
	reached := made(t)(impl.BehindSteps(g.d, g.r, w, 1))
	added := naiveAdd(reached, 1)
	equal(t, "too many states with a tape added", tidySize(added) > impl.MaxStates, true)
	equal(t, "pairs", tidySize(added)*tidySize(g.r) <= impl.MaxRaw, true)
	equal(t, "states that are left", tidySize(naivePairs(added, g.r, takesBoth)), 1)
	equal(t, "BehindSteps", codeOf(impl.BehindSteps(g.d, g.r, w, 2)), int64(impl.ErrLimit))
	isDistance(t, g, w, "b"+w[1:], impl.MaxSteps, 1, impl.OK)
	isDistance(t, g, w, "ab", impl.MaxSteps, 0, impl.ErrLimit)
	shorter := w[:30]
	equal(t, "BehindSteps of a shorter word", made(t)(impl.BehindSteps(g.d, g.r, shorter, 2)), nothing(1))
	isDistance(t, g, shorter, "ab", impl.MaxSteps, 0, impl.ErrNotFound)
}

// callsWithWords calls the functions that are given a graph and words.
func callsWithWords(d, r impl.Relation, v, w string, steps int64) []call {
	var calls []call
	add := func(name string, results ...any) { calls = append(calls, call{name, results}) }
	class, code := impl.ClassOf(d, r, v)
	add("ClassOf", class, code)
	first, code := impl.RepresentativeOf(d, r, v)
	add("RepresentativeOf", first, code)
	degree, code := impl.DegreeOf(d, r, v)
	add("DegreeOf", degree, code)
	reached, code := impl.BehindSteps(d, r, v, steps)
	add("BehindSteps", reached, code)
	distance, code := impl.DistanceOf(d, r, v, w, steps)
	add("DistanceOf", distance, code)
	return calls
}

// hasSteps tells whether a function is given a number of steps.
func (c call) hasSteps() bool { return c.name == "BehindSteps" || c.name == "DistanceOf" }

func TestErrorsOfWords(t *testing.T) {
	none, one, two := impl.Relation{}, everything(1), everything(2)
	long := strings.Repeat("b", impl.MaxWord)
	for _, c := range []struct {
		d, r  impl.Relation
		v     string
		steps int64
		code  int64
		other int64
	}{
		{evenA(), two, "b", 0, impl.OK, impl.OK},
		{evenA(), two, long, impl.MaxSteps, impl.OK, impl.OK},
		{evenA(), two, "b", impl.MaxSteps + 1, impl.ErrRange, impl.OK},
		{evenA(), two, "b", -1, impl.ErrRange, impl.OK},
		{evenA(), two, "b", math.MinInt64, impl.ErrRange, impl.OK},
		{evenA(), two, "b", math.MaxInt64, impl.ErrRange, impl.OK},
		{evenA(), two, "a", 0, impl.ErrNotFound, impl.ErrNotFound},
		{evenA(), two, "a", impl.MaxSteps, impl.ErrNotFound, impl.ErrNotFound},
		{evenA(), two, "a", impl.MaxSteps + 1, impl.ErrRange, impl.ErrNotFound},
		{evenA(), ring(148), "a", 1, impl.ErrNotFound, impl.ErrNotFound},
		{evenA(), ring(148), "a", -1, impl.ErrRange, impl.ErrNotFound},
		{evenA(), ring(148), "b", -1, impl.ErrRange, impl.ErrLimit},
		{nothing(1), two, "", 0, impl.ErrNotFound, impl.ErrNotFound},
		{evenA(), one, "a", 1, impl.ErrRange, impl.ErrRange},
		{evenA(), everything(3), "b", 1, impl.ErrRange, impl.ErrRange},
		{two, two, "b", 1, impl.ErrRange, impl.ErrRange},
		{everything(3), two, "b", -1, impl.ErrRange, impl.ErrRange},
		{evenA(), two, "c", 0, impl.ErrInvalid, impl.ErrInvalid},
		{evenA(), two, "B", -1, impl.ErrInvalid, impl.ErrInvalid},
		{evenA(), two, "b\n", 1, impl.ErrInvalid, impl.ErrInvalid},
		{evenA(), two, long + "b", 1, impl.ErrInvalid, impl.ErrInvalid},
		{two, one, "b#", 1, impl.ErrInvalid, impl.ErrInvalid},
		{none, two, "b", -1, impl.ErrInvalid, impl.ErrInvalid},
		{two, none, "b", 0, impl.ErrInvalid, impl.ErrInvalid},
		{evenA(), none, "a", 0, impl.ErrInvalid, impl.ErrInvalid},
	} {
		for _, called := range callsWithWords(c.d, c.r, c.v, c.v, c.steps) {
			want := c.other
			if called.hasSteps() {
				want = c.code
			}
			if called.name == "DegreeOf" && want == impl.OK {
				want = impl.ErrState
			}
			equal(t, called.name+" "+c.v, called.results[1], want)
			if want != impl.OK {
				equal(t, called.name+" "+c.v+" is zero", isZero(called.results[0]), true)
			}
		}
	}
}

// Both words of DistanceOf are looked at.
func TestErrorsOfDistances(t *testing.T) {
	g := graph{evenA(), everything(2)}
	isDistance(t, g, "b", "c", 1, 0, impl.ErrInvalid)
	isDistance(t, g, "c", "b", 1, 0, impl.ErrInvalid)
	isDistance(t, g, "a", "c", -1, 0, impl.ErrInvalid)
	isDistance(t, g, "b", strings.Repeat("b", impl.MaxWord+1), 1, 0, impl.ErrInvalid)
	isDistance(t, g, "b", "a", -1, 0, impl.ErrRange)
	isDistance(t, g, "b", "a", 1, 0, impl.ErrNotFound)
	isDistance(t, g, "a", "b", 1, 0, impl.ErrNotFound)
	isDistance(t, g, "a", "a", 0, 0, impl.ErrNotFound)
	isDistance(t, g, "b", "b", 0, 0, impl.OK)
	isDistance(t, g, "b", "bb", 0, 0, impl.ErrNotFound)
	isDistance(t, g, "b", "bb", 1, 1, impl.OK)
	limited := graph{evenA(), ring(148)}
	isDistance(t, limited, "b", "a", 1, 0, impl.ErrNotFound)
	isDistance(t, limited, "b", "bb", 1, 0, impl.ErrLimit)
	isDistance(t, limited, "bb", "bb", 1, 0, impl.OK)
}
