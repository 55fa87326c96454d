package tests

import (
	"testing"

	"loop.example/g01168/impl"
)

type joining struct {
	name string
	join func(r, s impl.Relation) (impl.Relation, int64)
	take func(p, q bool) bool
}

func joinings() []joining {
	return []joining{
		{"BothRelations", impl.BothRelations, func(p, q bool) bool { return p && q }},
		{"EitherRelation", impl.EitherRelation, func(p, q bool) bool { return p || q }},
		{"WithoutRelation", impl.WithoutRelation, func(p, q bool) bool { return p && !q }},
	}
}

func TestOppositeRelation(t *testing.T) {
	for _, r := range someRelations() {
		got, code := impl.OppositeRelation(r)
		size := isMade(t, "OppositeRelation", got, code, naiveOpposite(r), 0)
		if size > impl.MaxStates {
			continue
		}
		for _, words := range allTuples(r.Tapes, 2) {
			if takes(got, words) == takes(r, words) {
				t.Fatalf("OppositeRelation of %v and %q", r, words)
			}
		}
		back, code := impl.OppositeRelation(got)
		tidy, _ := impl.TidyRelation(r)
		equal(t, "code of the opposite of the opposite", code, int64(impl.OK))
		equal(t, "the opposite of the opposite", back, tidy)
	}
}

// The opposite of few states may have many, because lists that are not right
// are not taken by it either.
func TestOppositeRelationLimits(t *testing.T) {
	got, code := impl.OppositeRelation(evenRing(3, 143))
	equal(t, "states", isMade(t, "opposite", got, code, naiveOpposite(evenRing(3, 143)), 0), impl.MaxStates)
	got, code = impl.OppositeRelation(evenRing(3, 144))
	equal(t, "states", isMade(t, "opposite", got, code, naiveOpposite(evenRing(3, 144)), 0), impl.MaxStates+1)
	many := naiveOpposite(evenRing(3, 144))
	got, code = impl.OppositeRelation(many)
	equal(t, "opposite with fewer states", isMade(t, "opposite", got, code, evenRing(3, 144), 0), 145)
	equal(t, "nothing of one tape", made(t)(impl.OppositeRelation(everything(1))), nothing(1))
	equal(t, "nothing of three tapes", made(t)(impl.OppositeRelation(everything(3))), nothing(3))
	equal(t, "everything", len(made(t)(impl.OppositeRelation(nothing(3))).Next), 8)
}

func TestPuttingRelationsTogether(t *testing.T) {
	seen := map[int64]int{}
	for _, r := range someRelations() {
		for i, s := range someRelations() {
			if r.Tapes != s.Tapes || i%9 != len(r.Next)%9 {
				continue
			}
			raw := tidySize(r) * tidySize(s)
			for _, j := range joinings() {
				got, code := j.join(r, s)
				seen[code]++
				isMade(t, j.name, got, code, naivePairs(r, s, j.take), raw)
				for _, words := range allTuples(r.Tapes, 1) {
					if code == impl.OK && takes(got, words) != j.take(takes(r, words), takes(s, words)) {
						t.Fatalf("%s of %v and %v takes others: %q", j.name, r, s, words)
					}
				}
			}
		}
	}
	if seen[impl.OK] < 100 || seen[impl.ErrLimit] < 20 {
		t.Errorf("codes %v, so the test tells little", seen)
	}
}

func TestRelationsWithThemselves(t *testing.T) {
	for _, r := range []impl.Relation{evenA(), lasso(2, 3), evenRing(2, 4), evenRing(3, 2), nothing(2), everything(3)} {
		tidy := made(t)(impl.TidyRelation(r))
		opposite := made(t)(impl.OppositeRelation(r))
		all, none := made(t)(impl.TidyRelation(everything(r.Tapes))), nothing(r.Tapes)
		for _, s := range []impl.Relation{r, padded(r)} {
			equal(t, "both", made(t)(impl.BothRelations(r, s)), tidy)
			equal(t, "either", made(t)(impl.EitherRelation(r, s)), tidy)
			equal(t, "without", made(t)(impl.WithoutRelation(r, s)), none)
		}
		equal(t, "both, with the opposite", made(t)(impl.BothRelations(r, opposite)), none)
		equal(t, "either, with the opposite", made(t)(impl.EitherRelation(r, opposite)), all)
		equal(t, "without the opposite", made(t)(impl.WithoutRelation(r, opposite)), tidy)
		equal(t, "everything without it", made(t)(impl.WithoutRelation(everything(r.Tapes), r)), opposite)
		equal(t, "both, with everything", made(t)(impl.BothRelations(r, everything(r.Tapes))), tidy)
		equal(t, "either, with nothing", made(t)(impl.EitherRelation(nothing(r.Tapes), r)), tidy)
	}
}

// All pairs of tidy states count, also those that are not met, and no others.
func TestLimitsOfPairs(t *testing.T) {
	for _, c := range []struct {
		r, s impl.Relation
		raw  int
	}{
		{chain(38), chain(23), impl.MaxRaw},
		{chain(23), chain(38), impl.MaxRaw},
		{padded(chain(38)), padded(chain(23)), impl.MaxRaw},
		{chain(75), chain(11), impl.MaxRaw + 1},
		{chain(11), chain(75), impl.MaxRaw + 1},
		{chain(5), chain(141), impl.MaxRaw + 1},
		{chain(148), chain(148), 150 * 150},
		{chain(148), everything(1), 150},
		{twice(123), evenRing(2, 7), impl.MaxRaw},
		{twice(141), evenRing(2, 6), impl.MaxRaw + 1},
	} {
		equal(t, "pairs", tidySize(c.r)*tidySize(c.s), c.raw)
		for _, j := range joinings() {
			got, code := j.join(c.r, c.s)
			isMade(t, j.name, got, code, naivePairs(c.r, c.s, j.take), c.raw)
			equal(t, "code", code == impl.OK, c.raw <= impl.MaxRaw)
		}
	}
}

// twice takes just the pair of the word of n times "a" with itself; its tidy
// relation has n+2 states.
func twice(n int64) impl.Relation {
	accept := make([]bool, n+2)
	accept[n] = true
	return madeBy(2, accept, func(state int64, digits []int64) int64 {
		if digits[0] != 0 || digits[1] != 0 {
			return n + 1
		}
		return min(state+1, n+1)
	})
}

func TestLimitsOfWhatIsPutTogether(t *testing.T) {
	b, bb := made(t)(impl.RelationOf(1, [][]string{{"b"}})), made(t)(impl.RelationOf(1, [][]string{{"bb"}}))
	list := joinings()
	for _, c := range []struct {
		j    joining
		r, s impl.Relation
		size int
	}{
		{list[0], lasso(1, 4), lasso(1, 37), impl.MaxStates},
		{list[0], lasso(2, 4), lasso(2, 37), impl.MaxStates + 1},
		{list[1], chain(148), b, impl.MaxStates},
		{list[1], chain(148), bb, impl.MaxStates + 1},
		{list[2], lasso(1, 4), naiveOpposite(lasso(1, 37)), impl.MaxStates},
		{list[2], lasso(2, 37), naiveOpposite(lasso(2, 4)), impl.MaxStates + 1},
	} {
		got, code := c.j.join(c.r, c.s)
		raw := tidySize(c.r) * tidySize(c.s)
		equal(t, "states", isMade(t, c.j.name, got, code, naivePairs(c.r, c.s, c.j.take), raw), c.size)
	}
}

// Pairs are limited, and what comes out of them, but not the states of a tidy
// relation on the way.
func TestPuttingLargeRelationsTogether(t *testing.T) {
	seen := map[int64]int{}
	large := []impl.Relation{ring(147), ring(148), turning(2, 49), turning(2, 50), turning(2, 83), turning(2, 150), evenRing(2, 149)}
	for _, r := range large {
		for _, s := range []impl.Relation{nothing(2), everything(2), impl.EqualWords(), evenRing(2, 2), r} {
			raw := tidySize(r) * tidySize(s)
			for _, j := range joinings() {
				got, code := j.join(r, s)
				isMade(t, j.name, got, code, naivePairs(r, s, j.take), raw)
				got, code = j.join(s, r)
				isMade(t, j.name, got, code, naivePairs(s, r, j.take), raw)
				seen[code]++
			}
		}
	}
	if seen[impl.OK] < 30 || seen[impl.ErrLimit] < 30 {
		t.Errorf("codes %v, so the test tells little", seen)
	}
}

// A tidy relation may have so many states that there are too many pairs with one
// state alone.
func TestLimitsOfPairsOfLargeRelations(t *testing.T) {
	for _, c := range []struct {
		r   impl.Relation
		raw int
	}{
		{turning(3, 142), 995},
		{withStates(142, 5), impl.MaxRaw},
		{withStates(142, 6), impl.MaxRaw + 1},
		{turning(3, 143), 1002},
		{turning(3, 150), 1051},
	} {
		equal(t, "pairs", tidySize(c.r), c.raw)
		for _, j := range joinings() {
			got, code := j.join(c.r, nothing(3))
			isMade(t, j.name, got, code, naivePairs(c.r, nothing(3), j.take), c.raw)
			got, code = j.join(nothing(3), c.r)
			isMade(t, j.name, got, code, naivePairs(nothing(3), c.r, j.take), c.raw)
		}
		got, code := impl.BothRelations(c.r, nothing(3))
		equal(t, "code", code == impl.OK, c.raw <= impl.MaxRaw)
		equal(t, "nothing", code != impl.OK || impl.SameRelation(got, nothing(3)), true)
	}
}

// withStates is like turning of three tapes, with so many further states in front.
func withStates(n, further int64) impl.Relation {
	r := turning(3, n)
	for i := range further {
		row := make([]int64, 26)
		row[0] = r.Start
		r.Accept = append(r.Accept, true)
		r.Next = append(r.Next, row)
		r.Start = n + i
	}
	return r
}

func TestErrorsOfRelationsOfTwo(t *testing.T) {
	for _, j := range append(joinings(), joining{name: "IsContained", join: contained}) {
		for _, c := range []struct {
			r, s impl.Relation
			code int64
		}{
			{evenA(), everything(2), impl.ErrRange},
			{everything(3), everything(2), impl.ErrRange},
			{chain(148), ring(148), impl.ErrRange},
			{chain(149), evenA(), impl.ErrInvalid},
			{evenA(), chain(149), impl.ErrInvalid},
			{impl.Relation{}, impl.Relation{}, impl.ErrInvalid},
			{everything(2), impl.Relation{Tapes: 1}, impl.ErrInvalid},
		} {
			got, code := j.join(c.r, c.s)
			equal(t, j.name, code, c.code)
			equal(t, j.name, got, impl.Relation{})
		}
	}
	for _, r := range wrongRelations() {
		equal(t, "OppositeRelation", codeOf(impl.OppositeRelation(r)), int64(impl.ErrInvalid))
	}
}

// contained gives IsContained the form of the others.
func contained(r, s impl.Relation) (impl.Relation, int64) {
	yes, code := impl.IsContained(r, s)
	if yes {
		return everything(1), code
	}
	return impl.Relation{}, code
}

func TestIsContained(t *testing.T) {
	seen := map[bool]int{}
	d := dice(41)
	for range 2000 {
		tapes := 1 + d.below(3)
		r, s := randomRelation(&d, tapes, 1+d.below(3)), randomRelation(&d, tapes, 1+d.below(3))
		onlyR := naivePairs(r, s, func(p, q bool) bool { return p && !q })
		yes, code := impl.IsContained(r, s)
		if code != impl.OK || yes != takeTheSame(onlyR, nothing(tapes)) {
			t.Fatalf("IsContained of %v and %v: %v, %d", r, s, yes, code)
		}
		seen[yes]++
	}
	if seen[true] < 100 || seen[false] < 100 {
		t.Errorf("answers %v, so the test tells little", seen)
	}
}

// Nothing is limited for IsContained.
func TestIsContainedOfLargeRelations(t *testing.T) {
	d := dice(43)
	random := randomRelation(&d, 3, impl.MaxStates)
	for _, c := range []struct {
		r, s impl.Relation
		yes  bool
	}{
		{ring(148), ring(148), true},
		{ring(150), ring(75), true},
		{ring(75), ring(150), false},
		{random, random, true},
		{random, everything(3), true},
		{everything(3), random, false},
		{nothing(3), random, true},
		{chain(148), chain(147), false},
		{chain(148), naiveOpposite(chain(147)), true},
	} {
		yes, code := impl.IsContained(c.r, c.s)
		equal(t, "IsContained", yes, c.yes)
		equal(t, "its code", code, int64(impl.OK))
	}
}
