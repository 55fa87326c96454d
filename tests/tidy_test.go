package tests

import (
	"slices"
	"strings"
	"testing"

	"loop.example/g01168/impl"
)

func TestValidRelation(t *testing.T) {
	for _, r := range append(someRelations(), chain(impl.MaxStates-2)) {
		if !impl.ValidRelation(r) {
			t.Errorf("not valid: %v", r)
		}
	}
	for i, r := range wrongRelations() {
		if impl.ValidRelation(r) {
			t.Errorf("valid: %d, %v", i, r)
		}
	}
}

func TestSameRelation(t *testing.T) {
	list := append(wrongRelations(), evenA(), everything(2), nothing(2), chain(3))
	for i, r := range list {
		for j, s := range list {
			if impl.SameRelation(r, copyOf(s)) != (i == j) {
				t.Errorf("SameRelation of %v and %v", r, s)
			}
		}
	}
	full := impl.Relation{Accept: []bool{}, Next: [][]int64{{}}}
	equal(t, "nil and empty lists", impl.SameRelation(full, impl.Relation{Next: [][]int64{nil}}), true)
	equal(t, "one row and none", impl.SameRelation(full, impl.Relation{}), false)
}

func TestTextsOfRelations(t *testing.T) {
	list := append(someRelations(), chain(impl.MaxStates-2))
	d := dice(3)
	list = append(list, randomRelation(&d, 3, impl.MaxStates))
	for _, r := range list {
		text := impl.RelationText(r)
		back, code := impl.ReadRelation(text)
		if code != impl.OK || !impl.SameRelation(r, back) {
			t.Fatalf("%v is not found again by %q: %d", r, text, code)
		}
	}
	for _, r := range wrongRelations() {
		equal(t, "text of a relation that is not valid", impl.RelationText(r), "")
	}
	r := impl.Relation{Tapes: 2, Start: 1, Accept: []bool{false, true}, Next: [][]int64{{0, 1, 0, 1, 0, 1, 0, 1}, {1, 1, 1, 1, 0, 0, 0, 0}}}
	equal(t, "RelationText", impl.RelationText(r), "relation 2 2 1\nno 0 1 0 1 0 1 0 1\nyes 1 1 1 1 0 0 0 0\n")
}

func TestTextsThatAreNone(t *testing.T) {
	good := "relation 1 2 0\nyes 1 0\nno 0 1\n"
	list := []string{
		"", "\n", "\n\n", " ", "relation", "relation\n", "relation 1 2 0", "relation 1 2 0\n", "relation 1 0 0\n",
		strings.TrimSuffix(good, "\n"), good + "\n", "\n" + good, " " + good, good + " ", good + good,
		"relation 1 1 0\nyes 0\n", "relation 1 1 0\nyes 0 0 0\n", "relation 1 1 0\nyes\n", "relation 1 1 0\n0 0\n",
		"relation 1 2 0\nyes 0 0\n", "relation 1 1 0\nyes 0 0\nno 0 0\n", "relation 1 1 0 0\nyes 0 0\n", "relation 1 1\nyes 0 0\n",
	}
	for _, change := range [][2]string{
		{"relation", "Relation"}, {"relation", "relations"}, {"relation ", "relation  "}, {"relation ", ""}, {"relation", ""},
		{"yes", "Yes"}, {"no", "not"}, {"no ", "maybe "}, {"yes", "yes "}, {"yes 1 0", "yes 1 0 "}, {"yes 1 0", "yes\t1 0"}, {"yes 1 0", " yes 1 0"},
		{"1 2 0", "01 2 0"}, {"1 2 0", "+1 2 0"}, {"1 2 0", "1 2 -0"}, {"1 2 0", "1 2 -1"}, {"1 2 0", "1 2 2"}, {"1 2 0", "1 3 0"}, {"1 2 0", "1 1 0"},
		{"1 2 0", "2 2 0"}, {"1 2 0", "4 2 0"}, {"1 2 0", "18446744073709551617 2 0"}, {"1 2 0", "1 18446744073709551618 0"}, {"1 2 0", "1 2 18446744073709551616"},
		{"no 0 1", "no 0 2"}, {"no 0 1", "no 0 -1"}, {"no 0 1", "no 0 x"}, {"no 0 1", "no 0 0x1"}, {"no 0 1", "no 0 1.0"}, {"no 0 1", "no 0 "}, {"\n", "\r\n"},
	} {
		list = append(list, strings.Replace(good, change[0], change[1], 1))
	}
	for _, text := range list {
		r, code := impl.ReadRelation(text)
		if code != impl.ErrSyntax || !impl.SameRelation(r, impl.Relation{}) {
			t.Errorf("ReadRelation of %q: %v, %d", text, r, code)
		}
	}
	long := "relation 1 151 0\n" + strings.Repeat("no 0 0\n", impl.MaxStates+1)
	_, code := impl.ReadRelation(long)
	equal(t, "one state more than MaxStates", code, int64(impl.ErrSyntax))
	_, code = impl.ReadRelation("relation 1 150 0\n" + strings.Repeat("no 0 0\n", impl.MaxStates))
	equal(t, "MaxStates", code, int64(impl.OK))
	_, code = impl.ReadRelation(strings.Repeat("x", impl.MaxText))
	equal(t, "MaxText", code, int64(impl.ErrSyntax))
	_, code = impl.ReadRelation(strings.Repeat("x", impl.MaxText+1))
	equal(t, "one byte more than MaxText", code, int64(impl.ErrRange))
}

func TestHolds(t *testing.T) {
	for _, r := range someRelations() {
		for _, words := range allTuples(r.Tapes, 2) {
			yes, code := impl.Holds(r, words)
			if code != impl.OK || yes != takes(r, words) {
				t.Fatalf("Holds of %v and %q: %v, %d", r, words, yes, code)
			}
		}
	}
	long := strings.Repeat("a", impl.MaxWord)
	for _, c := range []struct {
		r     impl.Relation
		words []string
		yes   bool
		code  int64
	}{
		{chain(impl.MaxWord), []string{long}, true, impl.OK},
		{everything(1), []string{long + "a"}, false, impl.ErrInvalid},
		{everything(1), []string{"#"}, false, impl.ErrInvalid},
		{everything(1), nil, false, impl.ErrRange},
		{everything(1), []string{"a", "a"}, false, impl.ErrRange},
		{everything(3), []string{"a", "a"}, false, impl.ErrRange},
		{everything(1), []string{"a", "c"}, false, impl.ErrInvalid},
		{impl.Relation{}, nil, false, impl.ErrInvalid},
	} {
		yes, code := impl.Holds(c.r, c.words)
		equal(t, "Holds", yes, c.yes)
		equal(t, "its code", code, c.code)
	}
}

// deadStates are those from which no accepting state is reached.
func deadStates(r impl.Relation) []bool {
	dead := make([]bool, len(r.Next))
	for s := range dead {
		dead[s] = !r.Accept[s]
	}
	for range r.Next {
		for s, row := range r.Next {
			for _, next := range row {
				dead[s] = dead[s] && dead[next]
			}
		}
	}
	return dead
}

// faultOf tells why a relation is not tidy, or nothing if it is.
func faultOf(r impl.Relation) string {
	if r.Start != 0 {
		return "Start is not 0"
	}
	met := int64(1)
	for s, row := range r.Next {
		if int64(s) >= met {
			return "a state is not reached"
		}
		for _, next := range row {
			if next > met {
				return "states are not numbered as they are met"
			}
			met = max(met, next+1)
		}
	}
	if stateThatCouldBeOne(r) {
		return "two states could be one"
	}
	dead := deadStates(r)
	list := []pair{{p: 0}}
	seen := map[pair]bool{list[0]: true}
	for i := 0; i < len(list); i++ {
		for c, next := range r.Next[list[i].p] {
			now := endedBy(r.Tapes, int64(c))
			to := pair{p: next, ended: now}
			if !goesOn(list[i].ended, now) && !dead[next] {
				return "a list that is not right leads to a state that is not dead"
			}
			if goesOn(list[i].ended, now) && !seen[to] {
				seen[to] = true
				list = append(list, to)
			}
		}
	}
	return ""
}

// stateThatCouldBeOne marks pairs of unlike states until there are no more.
func stateThatCouldBeOne(r impl.Relation) bool {
	n := len(r.Next)
	unlike := make([][]bool, n)
	for s := range unlike {
		unlike[s] = make([]bool, n)
		for u := range unlike[s] {
			unlike[s][u] = r.Accept[s] != r.Accept[u]
		}
	}
	for changed := true; changed; {
		changed = false
		for s := range n {
			for u := range n {
				for c := range r.Next[s] {
					if !unlike[s][u] && unlike[r.Next[s][c]][r.Next[u][c]] {
						unlike[s][u], changed = true, true
					}
				}
			}
		}
	}
	for s := range n {
		for u := range s {
			if !unlike[s][u] {
				return true
			}
		}
	}
	return false
}

func TestTidyRelation(t *testing.T) {
	for _, r := range someRelations() {
		tidy, code := impl.TidyRelation(r)
		if code != impl.OK || !impl.ValidRelation(tidy) {
			t.Fatalf("TidyRelation of %v: %v, %d", r, tidy, code)
		}
		if fault := faultOf(tidy); fault != "" {
			t.Fatalf("TidyRelation of %v is %v: %s", r, tidy, fault)
		}
		if !takeTheSame(r, tidy) {
			t.Fatalf("TidyRelation of %v is %v, which takes others", r, tidy)
		}
		again, code := impl.TidyRelation(tidy)
		if code != impl.OK || !impl.SameRelation(tidy, again) {
			t.Fatalf("TidyRelation of %v is %v", tidy, again)
		}
	}
}

func TestTidyRelationsOfNothingAndEverything(t *testing.T) {
	for tapes, rows := range []string{"", "0 0", "0 0 0 0 0 0 0 0", strings.TrimSuffix(strings.Repeat("0 ", 26), " ")} {
		if tapes == 0 {
			continue
		}
		none, _ := impl.TidyRelation(nothing(int64(tapes)))
		equal(t, "nothing", impl.RelationText(none), "relation "+string(rune('0'+tapes))+" 1 0\nno "+rows+"\n")
	}
	one, _ := impl.TidyRelation(everything(1))
	equal(t, "all words", impl.RelationText(one), "relation 1 1 0\nyes 0 0\n")
	two, _ := impl.TidyRelation(everything(2))
	equal(t, "all pairs", impl.RelationText(two), "relation 2 4 0\nyes 0 0 1 0 0 1 2 2\nyes 3 3 1 3 3 1 3 3\nyes 3 3 3 3 3 3 2 2\nno 3 3 3 3 3 3 3 3\n")
	three, _ := impl.TidyRelation(everything(3))
	equal(t, "states for all triples", len(three.Next), 8)
}

// The states of a relation are put in another order, and doubled, which
// changes nothing of what it takes.
func TestTidyRelationIsTheOnlyOne(t *testing.T) {
	d := dice(11)
	for _, r := range someRelations() {
		n := int64(len(r.Next))
		if 2*n > impl.MaxStates {
			continue
		}
		place := make([]int64, 2*n)
		for i := range place {
			j := d.below(int64(i) + 1)
			place[i] = place[j]
			place[j] = int64(i)
		}
		other := impl.Relation{Tapes: r.Tapes, Start: place[r.Start], Accept: make([]bool, 2*n), Next: make([][]int64, 2*n)}
		for s := range 2 * n {
			row := make([]int64, columns(r.Tapes))
			for c := range row {
				row[c] = place[r.Next[s%n][c]+n*d.below(2)]
			}
			other.Accept[place[s]], other.Next[place[s]] = r.Accept[s%n], row
		}
		one, _ := impl.TidyRelation(r)
		two, _ := impl.TidyRelation(other)
		if !impl.SameRelation(one, two) {
			t.Fatalf("%v and %v have the tidy relations %v and %v", r, other, one, two)
		}
	}
}

// ring has n states in a ring, which is left by columns with pads: words of
// one length that n divides, and pairs of words with such a number of common
// columns. Its tidy relation has n+3 states.
func ring(n int64) impl.Relation {
	r := impl.Relation{Tapes: 2, Accept: make([]bool, n)}
	r.Accept[0] = true
	for s := range n {
		on := (s + 1) % n
		r.Next = append(r.Next, []int64{on, on, s, on, on, s, s, s})
	}
	return r
}

func TestTidyRelationLimits(t *testing.T) {
	tidy, code := impl.TidyRelation(ring(147))
	equal(t, "150 states", code, int64(impl.OK))
	equal(t, "150 states", len(tidy.Next), impl.MaxStates)
	equal(t, "fault", faultOf(tidy), "")
	tidy, code = impl.TidyRelation(ring(148))
	equal(t, "151 states", code, int64(impl.ErrLimit))
	equal(t, "result with an error", tidy, impl.Relation{})
	d := dice(5)
	_, code = impl.TidyRelation(randomRelation(&d, 3, impl.MaxStates))
	equal(t, "many states", code, int64(impl.ErrLimit))
}

// circle takes the words of one tape whose length n divides. All of its n states
// lead to an accepting one.
func circle(n int64) impl.Relation {
	r := impl.Relation{Tapes: 1, Accept: make([]bool, n)}
	r.Accept[0] = true
	for s := range n {
		r.Next = append(r.Next, []int64{(s + 1) % n, (s + 1) % n})
	}
	return r
}

func TestTidyRelationLimitsWithoutDeadStates(t *testing.T) {
	tidy, code := impl.TidyRelation(circle(impl.MaxStates))
	equal(t, "150 states", code, int64(impl.OK))
	equal(t, "150 states", tidy, circle(impl.MaxStates))
	opposite, code := impl.OppositeRelation(circle(impl.MaxStates))
	isMade(t, "opposite", opposite, code, naiveOpposite(circle(impl.MaxStates)), 0)
	for _, c := range []struct {
		p, q int64
		size int
	}{{6, 25, impl.MaxStates}, {8, 19, impl.MaxStates + 2}} {
		for _, j := range joinings() {
			got, code := j.join(circle(c.p), circle(c.q))
			want := naivePairs(circle(c.p), circle(c.q), j.take)
			equal(t, j.name, isMade(t, j.name, got, code, want, len(want.Next)), c.size)
		}
	}
}

// What is too large for a tidy relation can be looked at all the same.
func TestLargeRelationsAreComparedAndListed(t *testing.T) {
	large := ring(148)
	same, code := impl.AreEqual(large, ring(148))
	equal(t, "equal", same, true)
	equal(t, "code", code, int64(impl.OK))
	same, code = impl.AreEqual(large, ring(149))
	equal(t, "unlike", same, false)
	equal(t, "code", code, int64(impl.OK))
	tuple, code := impl.FirstTuple(large)
	equal(t, "first", tuple, []string{"", ""})
	equal(t, "code", code, int64(impl.OK))
	finite, code := impl.IsFinite(large)
	equal(t, "finite", finite, false)
	equal(t, "code", code, int64(impl.OK))
	count, code := impl.CountTuples(large, 1)
	equal(t, "count", count, int64(4))
	equal(t, "code", code, int64(impl.OK))
}

func TestAreEqualJustIfTidyRelationsAre(t *testing.T) {
	d := dice(13)
	alike := 0
	for range 3000 {
		tapes := 1 + d.below(2)
		r, s := randomRelation(&d, tapes, 1+d.below(3)), randomRelation(&d, tapes, 1+d.below(3))
		one, _ := impl.TidyRelation(r)
		two, _ := impl.TidyRelation(s)
		same, code := impl.AreEqual(r, s)
		if code != impl.OK || same != takeTheSame(r, s) || same != impl.SameRelation(one, two) {
			t.Fatalf("AreEqual of %v and %v: %v, %d", r, s, same, code)
		}
		tuple, code := impl.FirstUnlike(r, s)
		if same {
			alike++
			equal(t, "FirstUnlike of equal ones", code, int64(impl.ErrNotFound))
			equal(t, "tuple with an error", len(tuple), 0)
			continue
		}
		isFirstUnlike(t, r, s, tuple, code)
	}
	if alike < 100 || alike > 2900 {
		t.Errorf("%d of the relations are equal, so the test tells little", alike)
	}
}

func isFirstUnlike(t *testing.T, r, s impl.Relation, tuple []string, code int64) {
	t.Helper()
	if code != impl.OK || takes(r, tuple) == takes(s, tuple) {
		t.Fatalf("FirstUnlike of %v and %v: %q, %d", r, s, tuple, code)
	}
	for _, words := range allTuples(r.Tapes, min(len(numbersOf(tuple)), 3)) {
		if inOrder(words, tuple) < 0 && takes(r, words) != takes(s, words) {
			t.Fatalf("FirstUnlike of %v and %v: %q, but %q is before it", r, s, tuple, words)
		}
	}
}

func TestFirstUnlikeLimitsAndErrors(t *testing.T) {
	short, long := chain(impl.MaxWord), chain(impl.MaxWord+1)
	tuple, code := impl.FirstUnlike(nothing(1), short)
	equal(t, "MaxWord letters", code, int64(impl.OK))
	equal(t, "MaxWord letters", tuple, []string{strings.Repeat("a", impl.MaxWord)})
	tuple, code = impl.FirstUnlike(long, nothing(1))
	equal(t, "one letter more", code, int64(impl.ErrLimit))
	equal(t, "one letter more", len(tuple), 0)
	same, code := impl.AreEqual(long, nothing(1))
	equal(t, "AreEqual looks at longer words", same, false)
	equal(t, "AreEqual looks at longer words", code, int64(impl.OK))
	_, code = impl.FirstUnlike(chain(impl.MaxStates-2), chain(impl.MaxStates-3))
	equal(t, "long words", code, int64(impl.ErrLimit))
	_, code = impl.FirstUnlike(long, long)
	equal(t, "none", code, int64(impl.ErrNotFound))
	for _, c := range []struct {
		r, s impl.Relation
		code int64
	}{
		{evenA(), everything(2), impl.ErrRange},
		{everything(3), everything(2), impl.ErrRange},
		{impl.Relation{}, everything(2), impl.ErrInvalid},
		{evenA(), impl.Relation{Tapes: 2}, impl.ErrInvalid},
	} {
		tuple, code := impl.FirstUnlike(c.r, c.s)
		equal(t, "FirstUnlike", code, c.code)
		equal(t, "tuple with an error", len(tuple), 0)
		same, code := impl.AreEqual(c.r, c.s)
		equal(t, "AreEqual", code, c.code)
		equal(t, "answer with an error", same, false)
	}
}

func TestFirstUnlikeOfKnownRelations(t *testing.T) {
	tuple, code := impl.FirstUnlike(everything(2), ring(2))
	equal(t, "code", code, int64(impl.OK))
	equal(t, "the first pair with an odd number of common columns", tuple, []string{"a", "a"})
	equals, _ := impl.RelationOf(3, [][]string{{"", "b", "ab"}, {"b", "", "ab"}})
	one, _ := impl.RelationOf(3, [][]string{{"", "b", "ab"}})
	tuple, _ = impl.FirstUnlike(one, equals)
	equal(t, "one more", tuple, []string{"b", "", "ab"})
	tuple, _ = impl.FirstTuple(equals)
	two := [][]string{{"", "b", "ab"}, {"b", "", "ab"}}
	equal(t, "first of both", tuple, slices.MinFunc(two, inOrder))
}
