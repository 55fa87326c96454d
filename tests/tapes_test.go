package tests

import (
	"slices"
	"strings"
	"testing"

	"loop.example/g01168/impl"
)

func TestAddTape(t *testing.T) {
	for _, r := range someRelations() {
		if r.Tapes == impl.MaxTapes {
			continue
		}
		for at := range r.Tapes + 1 {
			got, code := impl.AddTape(r, at)
			isMade(t, "AddTape", got, code, naiveAdd(r, at), 0)
			if code != impl.OK {
				continue
			}
			for _, words := range allTuples(got.Tapes, 2) {
				if takes(got, words) != takes(r, without(words, at)) {
					t.Fatalf("AddTape of %v and %d: %q", r, at, words)
				}
			}
		}
	}
}

func TestAddTapeLimits(t *testing.T) {
	for at := range int64(2) {
		got, code := impl.AddTape(lasso(0, 74), at)
		equal(t, "states", isMade(t, "AddTape", got, code, naiveAdd(lasso(0, 74), at), 0), impl.MaxStates)
		got, code = impl.AddTape(lasso(1, 74), at)
		equal(t, "states", isMade(t, "AddTape", got, code, naiveAdd(lasso(1, 74), at), 0), impl.MaxStates+1)
	}
	equal(t, "everything", made(t)(impl.AddTape(everything(2), 1)), made(t)(impl.TidyRelation(everything(3))))
	equal(t, "nothing", made(t)(impl.AddTape(nothing(1), 0)), nothing(2))
	for _, c := range []struct {
		r    impl.Relation
		at   int64
		code int64
	}{
		{evenA(), -1, impl.ErrRange},
		{evenA(), 0, impl.OK},
		{evenA(), 1, impl.OK},
		{evenA(), 2, impl.ErrRange},
		{everything(2), 2, impl.OK},
		{everything(2), 3, impl.ErrRange},
		{everything(3), 0, impl.ErrRange},
		{everything(3), 3, impl.ErrRange},
		{evenA(), 1 << 62, impl.ErrRange},
		{evenA(), -1 << 63, impl.ErrRange},
		{impl.Relation{Tapes: 3}, 9, impl.ErrInvalid},
		{ring(150), 3, impl.ErrRange},
		{ring(150), 2, impl.ErrLimit},
	} {
		r, code := impl.AddTape(c.r, c.at)
		equal(t, "AddTape", code, c.code)
		equal(t, "AddTape", impl.ValidRelation(r), code == impl.OK)
	}
}

func ordersOf(tapes int64) [][]int64 {
	list := [][]int64{nil}
	for range tapes {
		var longer [][]int64
		for _, order := range list {
			for t := range tapes {
				if !slices.Contains(order, t) {
					longer = append(longer, append(slices.Clone(order), t))
				}
			}
		}
		list = longer
	}
	return list
}

func TestMoveTapes(t *testing.T) {
	for _, r := range someRelations() {
		for _, order := range ordersOf(r.Tapes) {
			got, code := impl.MoveTapes(r, order)
			isMade(t, "MoveTapes", got, code, naiveMove(r, order), 0)
			if code != impl.OK {
				continue
			}
			back := make([]int64, len(order))
			for at, from := range order {
				back[from] = int64(at)
			}
			for _, words := range allTuples(r.Tapes, 1) {
				var moved []string
				for _, from := range order {
					moved = append(moved, words[from])
				}
				if takes(got, words) != takes(r, moved) {
					t.Fatalf("MoveTapes of %v and %v: %q", r, order, words)
				}
			}
			tidy, _ := impl.TidyRelation(r)
			equal(t, "there and back", made(t)(impl.MoveTapes(got, back)), tidy)
		}
	}
}

func TestMoveTapesInAKnownOrder(t *testing.T) {
	r := made(t)(impl.RelationOf(3, [][]string{{"a", "", "bb"}}))
	list, _ := impl.TuplesUpTo(made(t)(impl.MoveTapes(r, []int64{2, 0, 1})), 2)
	equal(t, "tape 0 has the word of the tape 2 and so on", list, [][]string{{"", "bb", "a"}})
}

func TestMoveTapesErrors(t *testing.T) {
	for _, c := range []struct {
		r     impl.Relation
		order []int64
		code  int64
	}{
		{evenA(), []int64{0}, impl.OK},
		{evenA(), nil, impl.ErrRange},
		{evenA(), []int64{1}, impl.ErrRange},
		{evenA(), []int64{0, 0}, impl.ErrRange},
		{everything(2), []int64{0, 1}, impl.OK},
		{everything(2), []int64{0}, impl.ErrRange},
		{everything(2), []int64{0, 0}, impl.ErrRange},
		{everything(2), []int64{0, 2}, impl.ErrRange},
		{everything(2), []int64{-1, 0}, impl.ErrRange},
		{everything(2), []int64{0, 1, 2}, impl.ErrRange},
		{everything(3), []int64{0, 1, 0}, impl.ErrRange},
		{everything(3), []int64{2, 1, 0}, impl.OK},
		{everything(3), []int64{1, 2, 3}, impl.ErrRange},
		{everything(3), []int64{1 << 62, 1, -1 << 63}, impl.ErrRange},
		{evenA(), make([]int64, 1000000), impl.ErrRange},
		{impl.Relation{Tapes: 2}, []int64{5}, impl.ErrInvalid},
		{ring(148), []int64{1, 1}, impl.ErrRange},
		{ring(148), []int64{1, 0}, impl.ErrLimit},
		{ring(147), []int64{1, 0}, impl.OK},
	} {
		r, code := impl.MoveTapes(c.r, c.order)
		equal(t, "MoveTapes", code, c.code)
		equal(t, "MoveTapes", impl.ValidRelation(r), code == impl.OK)
	}
}

func TestFixTape(t *testing.T) {
	d := dice(47)
	seen := map[int64]int{}
	for _, r := range someRelations() {
		if r.Tapes == 1 {
			continue
		}
		tidy, code := impl.TidyRelation(r)
		if code != impl.OK {
			continue
		}
		for tape := range r.Tapes {
			w := strings.Repeat("a", int(d.below(5))) + strings.Repeat("ba", int(d.below(18)))
			got, code := impl.FixTape(r, tape, w)
			seen[code]++
			isMade(t, "FixTape", got, code, naiveFix(tidy, tape, w), len(tidy.Next)*(len(w)+1))
			if code == impl.OK {
				isFixed(t, r, tape, w, got)
			}
		}
	}
	if seen[impl.OK] < 50 || seen[impl.ErrLimit] < 5 {
		t.Errorf("codes %v, so the test tells little", seen)
	}
}

// isFixed looks at short tuples, and at those with words about as long as w.
func isFixed(t *testing.T, r impl.Relation, tape int64, w string, got impl.Relation) {
	t.Helper()
	list := allTuples(got.Tapes, 2)
	for _, words := range allTuples(got.Tapes, 1) {
		for i := range words {
			words[i] = w[:max(0, len(w)-1)] + words[i]
		}
		list = append(list, words)
	}
	for _, words := range list {
		if takes(got, words) != takes(r, inserted(words, tape, w)) {
			t.Fatalf("FixTape of %v, %d and %q: %q", r, tape, w, words)
		}
	}
}

func TestFixTapeLimits(t *testing.T) {
	for _, c := range []struct {
		r       impl.Relation
		letters int
		raw     int
	}{
		{ring(22), 39, impl.MaxRaw},
		{padded(ring(22)), 39, impl.MaxRaw},
		{ring(22), 40, impl.MaxRaw + 25},
		{ring(21), 40, 24 * 41},
		{ring(88), 10, impl.MaxRaw + 1},
		{ring(140), 6, impl.MaxRaw + 1},
		{ring(122), 7, impl.MaxRaw},
		{ring(147), 0, 150},
		{evenRing(3, 124), 7, impl.MaxRaw},
		{evenRing(3, 142), 6, impl.MaxRaw + 1},
		{turning(2, 60), 0, 181},
		{turning(2, 150), 0, 451},
		{turning(2, 150), 1, 902},
		{turning(2, 150), 2, 1353},
		{turning(2, 111), 2, 1002},
		{ring(148), 0, 151},
		{turning(3, 142), 0, 995},
		{withStates(142, 5), 0, impl.MaxRaw},
		{withStates(142, 6), 0, impl.MaxRaw + 1},
		{turning(3, 150), 0, 1051},
	} {
		w := strings.Repeat("b", c.letters)
		equal(t, "states", tidySize(c.r)*(c.letters+1), c.raw)
		for tape := range c.r.Tapes {
			got, code := impl.FixTape(c.r, tape, w)
			isMade(t, "FixTape", got, code, naiveFix(c.r, tape, w), c.raw)
		}
	}
	equal(t, "with the empty word", made(t)(impl.FixTape(turning(2, 60), 1, "")), made(t)(impl.TidyRelation(turning(1, 60))))
}

// fork takes two words, the first one not shorter, if its letters up to the end
// of the second one lead to one of some numbers below n, and if it goes on then.
func fork(d *dice, n int64) impl.Relation {
	accept := make([]bool, n+2)
	good, dead := n, n+1
	accept[good] = true
	some := make([]bool, n)
	for i := range some {
		some[i] = d.below(2) == 0
	}
	return madeBy(2, accept, func(state int64, digits []int64) int64 {
		switch {
		case digits[0] == 2:
			return dead
		case state >= n:
			return state
		case digits[1] == 2 && some[state]:
			return good
		case digits[1] == 2:
			return dead
		}
		return (2*state + digits[0] + 1) % n
	})
}

// A relation with few states can have many more for a word on one tape.
func TestFixTapeLimitsOfTheResult(t *testing.T) {
	d := dice(53)
	seen := map[int]bool{}
	for i := 0; i < 1000 && !(seen[impl.MaxStates] && seen[impl.MaxStates+1]); i++ {
		r := fork(&d, 30+d.below(40))
		w := strings.Repeat("ab", 5)
		got, code := impl.FixTape(r, 1, w)
		seen[isMade(t, "FixTape", got, code, naiveFix(r, 1, w), tidySize(r)*11)] = true
	}
	equal(t, "MaxStates has been reached", seen[impl.MaxStates], true)
	equal(t, "and exceeded by one", seen[impl.MaxStates+1], true)
}

func TestFixTapeErrors(t *testing.T) {
	long := strings.Repeat("a", impl.MaxWord)
	for _, c := range []struct {
		r    impl.Relation
		tape int64
		w    string
		code int64
	}{
		{everything(2), 0, "", impl.OK},
		{everything(2), 1, long, impl.OK},
		{everything(2), 1, long + "a", impl.ErrInvalid},
		{everything(2), 5, "c", impl.ErrInvalid},
		{everything(2), -1, "a", impl.ErrRange},
		{everything(2), 2, "a", impl.ErrRange},
		{everything(3), 2, "a", impl.OK},
		{everything(3), 3, "a", impl.ErrRange},
		{evenA(), 0, "a", impl.ErrRange},
		{evenA(), 0, "A", impl.ErrInvalid},
		{impl.Relation{}, 0, "a", impl.ErrInvalid},
		{everything(2), 1 << 62, "a", impl.ErrRange},
		{ring(148), 2, long, impl.ErrRange},
		{ring(148), 1, long, impl.ErrLimit},
	} {
		r, code := impl.FixTape(c.r, c.tape, c.w)
		equal(t, "FixTape", code, c.code)
		equal(t, "FixTape", impl.ValidRelation(r), code == impl.OK)
	}
}

func TestSameOn(t *testing.T) {
	for _, r := range someRelations() {
		for tape := range r.Tapes {
			for other := range r.Tapes {
				got, code := impl.SameOn(r, tape, other)
				if tape == other {
					equal(t, "one tape twice", code, int64(impl.ErrRange))
					equal(t, "one tape twice", got, impl.Relation{})
					continue
				}
				isMade(t, "SameOn", got, code, naiveSame(r, tape, other), 0)
				for _, words := range allTuples(r.Tapes, 2) {
					if code == impl.OK && takes(got, words) != (takes(r, words) && words[tape] == words[other]) {
						t.Fatalf("SameOn of %v, %d and %d: %q", r, tape, other, words)
					}
				}
			}
		}
	}
}

// Only what comes out of SameOn is limited.
func TestSameOnLimits(t *testing.T) {
	for _, c := range []struct {
		r    impl.Relation
		size int
	}{{evenRing(2, 149), 150}, {ring(149), 150}, {ring(150), 151}, {ring(148), 149}, {nothing(2), 1}} {
		got, code := impl.SameOn(c.r, 1, 0)
		equal(t, "states", isMade(t, "SameOn", got, code, naiveSame(c.r, 1, 0), 0), c.size)
	}
	equal(t, "equal words", made(t)(impl.SameOn(everything(2), 0, 1)), impl.EqualWords())
	for _, c := range []struct {
		r           impl.Relation
		tape, other int64
		code        int64
	}{
		{evenA(), 0, 0, impl.ErrRange},
		{evenA(), 0, 1, impl.ErrRange},
		{everything(2), 0, 2, impl.ErrRange},
		{everything(2), 2, 0, impl.ErrRange},
		{everything(2), -1, 0, impl.ErrRange},
		{everything(2), 1, -1, impl.ErrRange},
		{everything(2), 1, 1, impl.ErrRange},
		{everything(3), 2, 1, impl.OK},
		{everything(3), 2, 3, impl.ErrRange},
		{impl.Relation{Tapes: 2}, 1, 1, impl.ErrInvalid},
		{ring(150), 1, 1, impl.ErrRange},
	} {
		r, code := impl.SameOn(c.r, c.tape, c.other)
		equal(t, "SameOn", code, c.code)
		equal(t, "SameOn", impl.ValidRelation(r), code == impl.OK)
	}
}
