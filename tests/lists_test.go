package tests

import (
	"slices"
	"strings"
	"testing"

	"loop.example/g01168/impl"
)

// longestFor keeps the number of tuples that are looked at small.
func longestFor(tapes int64) int {
	return []int{0, 6, 3, 2}[tapes]
}

func TestTuplesUpToAndCountTuples(t *testing.T) {
	for _, r := range someRelations() {
		taken := takenUpTo(r, longestFor(r.Tapes))
		for n := range longestFor(r.Tapes) + 1 {
			isListed(t, r, int64(n), taken)
		}
	}
}

// isListed compares what is listed and counted with all short tuples that are taken.
func isListed(t *testing.T, r impl.Relation, length int64, taken [][]string) {
	t.Helper()
	var want [][]string
	just := int64(0)
	for _, words := range taken {
		k := int64(len(numbersOf(words)))
		if k <= length {
			want = append(want, words)
		}
		if k == length {
			just++
		}
	}
	count, code := impl.CountTuples(r, length)
	if code != impl.OK || count != just {
		t.Fatalf("CountTuples of %v and %d: %d, %d, want %d", r, length, count, code, just)
	}
	list, code := impl.TuplesUpTo(r, length)
	if len(want) > impl.MaxListed {
		if code != impl.ErrLimit || list != nil {
			t.Fatalf("TuplesUpTo of %v and %d: %d, want %d tuples", r, length, code, len(want))
		}
		return
	}
	if code != impl.OK || !slices.EqualFunc(list, want, slices.Equal[[]string]) {
		t.Fatalf("TuplesUpTo of %v and %d: %q, %d, want %q", r, length, list, code, want)
	}
}

func TestTuplesUpToListsWhatIsCounted(t *testing.T) {
	d := dice(17)
	for range 300 {
		tapes := 1 + d.below(3)
		r := randomRelation(&d, tapes, 1+d.below(6))
		together := int64(0)
		for length := range int64(impl.MaxLength + 1) {
			count, _ := impl.CountTuples(r, length)
			together += count
			list, code := impl.TuplesUpTo(r, length)
			if together > impl.MaxListed {
				equal(t, "too many", code, int64(impl.ErrLimit))
				break
			}
			if code != impl.OK || int64(len(list)) != together || !slices.IsSortedFunc(list, inOrder) {
				t.Fatalf("TuplesUpTo of %v and %d: %q, %d, want %d", r, length, list, code, together)
			}
		}
	}
}

func TestListLimits(t *testing.T) {
	list, code := impl.TuplesUpTo(firstWords(impl.MaxListed), impl.MaxLength)
	equal(t, "MaxListed", code, int64(impl.OK))
	equal(t, "MaxListed", len(list), impl.MaxListed)
	equal(t, "the words listed", list, takenUpTo(everything(1), 8)[:impl.MaxListed])
	more := firstWords(impl.MaxListed + 1)
	list, code = impl.TuplesUpTo(more, impl.MaxLength)
	equal(t, "one more than MaxListed", code, int64(impl.ErrLimit))
	equal(t, "one more than MaxListed", len(list), 0)
	list, code = impl.TuplesUpTo(more, 7)
	equal(t, "fewer of the same relation", code, int64(impl.OK))
	equal(t, "fewer of the same relation", len(list), 255)
	list, code = impl.TuplesUpTo(everything(3), impl.MaxLength)
	equal(t, "very many", code, int64(impl.ErrLimit))
	equal(t, "very many", len(list), 0)
	list, code = impl.TuplesUpTo(chain(impl.MaxLength), impl.MaxLength)
	equal(t, "MaxLength", code, int64(impl.OK))
	equal(t, "MaxLength", list, [][]string{{strings.Repeat("a", impl.MaxLength)}})
	list, code = impl.TuplesUpTo(chain(impl.MaxLength), impl.MaxLength-1)
	equal(t, "one column less", code, int64(impl.OK))
	equal(t, "one column less", len(list), 0)
	for _, length := range []int64{-1, impl.MaxLength + 1, 1 << 62, -1 << 63} {
		list, code := impl.TuplesUpTo(chain(3), length)
		equal(t, "TuplesUpTo", code, int64(impl.ErrRange))
		equal(t, "TuplesUpTo", len(list), 0)
		count, code := impl.CountTuples(chain(3), length)
		equal(t, "CountTuples", code, int64(impl.ErrRange))
		equal(t, "CountTuples", count, int64(0))
	}
}

func TestCountTuplesOfEverything(t *testing.T) {
	for tapes := int64(1); tapes <= 3; tapes++ {
		for length := range int64(impl.MaxLength + 1) {
			words, shorter := int64(1)<<(length+1)-1, int64(1)<<length-1
			want, less := int64(1), int64(1)
			for range tapes {
				want *= words
				less *= shorter
			}
			count, code := impl.CountTuples(everything(tapes), length)
			equal(t, "CountTuples of everything", count, want-less)
			equal(t, "its code", code, int64(impl.OK))
		}
	}
}

// isFiniteIn tells by the number of states: what has a tuple with so many
// columns as states, or more, has infinitely many.
func isFiniteIn(r impl.Relation) bool {
	now := map[pair]bool{{p: r.Start}: true}
	states := len(r.Next)*8 + 1
	for k := range 2 * states {
		next := map[pair]bool{}
		for at := range now {
			if k >= states && r.Accept[at.p] {
				return false
			}
			for c, to := range r.Next[at.p] {
				if ended := endedBy(r.Tapes, int64(c)); goesOn(at.ended, ended) {
					next[pair{p: to, ended: ended}] = true
				}
			}
		}
		now = next
	}
	return true
}

func TestIsEmptyIsFiniteAndCountAll(t *testing.T) {
	d := dice(19)
	kinds := map[string]int{}
	for range 1500 {
		tapes := 1 + d.below(3)
		r := randomRelation(&d, tapes, 1+d.below(4))
		if d.below(2) == 0 {
			r = cutOff(r, &d)
		}
		taken := takenUpTo(r, longestFor(tapes))
		finite, code := impl.IsFinite(r)
		if code != impl.OK || finite != isFiniteIn(r) {
			t.Fatalf("IsFinite of %v: %v, %d", r, finite, code)
		}
		empty, code := impl.IsEmpty(r)
		if code != impl.OK || empty != takeTheSame(r, nothing(tapes)) {
			t.Fatalf("IsEmpty of %v: %v, %d", r, empty, code)
		}
		count, code := impl.CountAll(r)
		switch {
		case !finite:
			kinds["infinite"]++
			equal(t, "CountAll of infinitely many", code, int64(impl.ErrState))
			equal(t, "count with an error", count, int64(0))
		case empty:
			kinds["empty"]++
			equal(t, "CountAll of none", code, int64(impl.OK))
			equal(t, "CountAll of none", count, int64(0))
		default:
			kinds["finite"]++
			isCounted(t, r, count, code, taken)
		}
	}
	for _, kind := range []string{"infinite", "empty", "finite"} {
		if kinds[kind] < 50 {
			t.Errorf("only %d relations are %s, so the test tells little", kinds[kind], kind)
		}
	}
}

// cutOff lets columns lead to greater states only, or to the last one, which takes nothing.
func cutOff(r impl.Relation, d *dice) impl.Relation {
	n := int64(len(r.Next))
	r.Start = 0
	r.Accept[n-1] = false
	for s := range n {
		for c := range r.Next[s] {
			r.Next[s][c] = min(n-1, s+1+d.below(2))
		}
	}
	return r
}

// isCounted looks at relations that take no tuples longer than those that are told.
func isCounted(t *testing.T, r impl.Relation, count, code int64, taken [][]string) {
	t.Helper()
	longest := 0
	for k := range int64(impl.MaxLength + 1) {
		if n, _ := impl.CountTuples(r, k); n > 0 {
			longest = int(k)
		}
	}
	if longest > longestFor(r.Tapes) {
		return
	}
	if code != impl.OK || count != int64(len(taken)) {
		t.Fatalf("CountAll of %v: %d, %d, want %d", r, count, code, len(taken))
	}
}

func TestCountAllLimits(t *testing.T) {
	const most = 1000000000
	for _, n := range []int64{1, 2, 3, 300, 1 << 20, most - 1, most} {
		count, code := impl.CountAll(firstWords(n))
		equal(t, "CountAll", count, n)
		equal(t, "CountAll", code, int64(impl.OK))
	}
	count, code := impl.CountAll(firstWords(most + 1))
	equal(t, "one more", count, int64(0))
	equal(t, "one more", code, int64(impl.ErrLimit))
	equalWords := impl.Relation{Tapes: 3}
	for s := range int64(impl.MaxStates) {
		row := make([]int64, 26)
		for c := range row {
			row[c] = min(s+1, impl.MaxStates-1)
		}
		equalWords.Accept = append(equalWords.Accept, s < impl.MaxStates-1)
		equalWords.Next = append(equalWords.Next, row)
	}
	count, code = impl.CountAll(equalWords)
	equal(t, "more than numbers can tell", count, int64(0))
	equal(t, "more than numbers can tell", code, int64(impl.ErrLimit))
	finite, _ := impl.IsFinite(equalWords)
	equal(t, "all words with so many letters", finite, true)
	long, code := impl.CountAll(chain(impl.MaxStates - 2))
	equal(t, "a word that is too long to be listed", long, int64(1))
	equal(t, "a word that is too long to be listed", code, int64(impl.OK))
}

// A circle does not matter if it is not reached, not left towards an
// accepting state, or walked only by lists that are not right.
func TestCirclesThatDoNotMatter(t *testing.T) {
	notReached := relationFrom(t, "relation 1 3 0", "yes 1 1", "no 1 1", "yes 2 2")
	notLeft := relationFrom(t, "relation 1 2 0", "yes 1 1", "no 1 1")
	notRight := relationFrom(t, "relation 2 4 0",
		"no 3 3 1 3 3 3 3 3", "no 3 3 2 3 3 3 3 3", "yes 3 3 3 3 3 3 0 3", "no 3 3 3 3 3 3 3 3")
	for _, r := range []impl.Relation{notReached, notLeft, notRight} {
		finite, code := impl.IsFinite(r)
		equal(t, "IsFinite", finite, true)
		equal(t, "its code", code, int64(impl.OK))
		count, code := impl.CountAll(r)
		equal(t, "CountAll", count, int64(1))
		equal(t, "its code", code, int64(impl.OK))
	}
}

func TestListsThatAreNotRightDoNotMatter(t *testing.T) {
	wrongOnly := relationFrom(t, "relation 2 4 0",
		"no 3 3 1 3 3 3 3 3", "no 2 3 3 3 3 3 3 3", "yes 2 2 2 2 2 2 2 2", "no 3 3 3 3 3 3 3 3")
	empty, _ := impl.IsEmpty(wrongOnly)
	equal(t, "a list that is not right is needed", empty, true)
	_, code := impl.FirstTuple(wrongOnly)
	equal(t, "a list that is not right is needed", code, int64(impl.ErrNotFound))
	count, _ := impl.CountTuples(wrongOnly, 2)
	equal(t, "a list that is not right is needed", count, int64(0))
	same, _ := impl.AreEqual(wrongOnly, nothing(2))
	equal(t, "a list that is not right is needed", same, true)
	tidy, _ := impl.TidyRelation(wrongOnly)
	equal(t, "a list that is not right is needed", tidy, nothing(2))
}

func TestFirstTuple(t *testing.T) {
	for _, r := range someRelations() {
		tuple, code := impl.FirstTuple(r)
		if empty, _ := impl.IsEmpty(r); empty {
			equal(t, "FirstTuple of nothing", code, int64(impl.ErrNotFound))
			equal(t, "FirstTuple of nothing", len(tuple), 0)
			continue
		}
		if code != impl.OK || !takes(r, tuple) {
			t.Fatalf("FirstTuple of %v: %q, %d", r, tuple, code)
		}
		for _, words := range takenUpTo(r, min(len(numbersOf(tuple)), 3)) {
			if inOrder(words, tuple) < 0 {
				t.Fatalf("FirstTuple of %v: %q, but %q is before it", r, tuple, words)
			}
		}
	}
	tuple, code := impl.FirstTuple(chain(impl.MaxWord))
	equal(t, "MaxWord letters", tuple, []string{strings.Repeat("a", impl.MaxWord)})
	equal(t, "MaxWord letters", code, int64(impl.OK))
	tuple, code = impl.FirstTuple(chain(impl.MaxWord + 1))
	equal(t, "one letter more", len(tuple), 0)
	equal(t, "one letter more", code, int64(impl.ErrLimit))
}

func TestRelationOf(t *testing.T) {
	d := dice(23)
	for tapes := int64(1); tapes <= 3; tapes++ {
		all := allTuples(tapes, 3)
		for range 60 {
			var list [][]string
			for range d.below(12) {
				list = append(list, all[d.below(int64(len(all)))])
			}
			r, code := impl.RelationOf(tapes, list)
			if code != impl.OK || !impl.ValidRelation(r) || faultOf(r) != "" {
				t.Fatalf("RelationOf %q: %v, %d, %s", list, r, code, faultOf(r))
			}
			isJustOf(t, r, list)
			slices.Reverse(list)
			again, _ := impl.RelationOf(tapes, append(list, list...))
			equal(t, "backwards, and twice", again, r)
		}
	}
}

func isJustOf(t *testing.T, r impl.Relation, list [][]string) {
	t.Helper()
	want := slices.Clone(list)
	slices.SortFunc(want, inOrder)
	want = slices.CompactFunc(want, slices.Equal[[]string])
	got, code := impl.TuplesUpTo(r, impl.MaxLength)
	if code != impl.OK || !slices.EqualFunc(got, want, slices.Equal[[]string]) {
		t.Fatalf("RelationOf %q takes %q", list, got)
	}
	count, code := impl.CountAll(r)
	equal(t, "CountAll", count, int64(len(want)))
	equal(t, "its code", code, int64(impl.OK))
	finite, _ := impl.IsFinite(r)
	equal(t, "IsFinite", finite, true)
	empty, _ := impl.IsEmpty(r)
	equal(t, "IsEmpty", empty, len(want) == 0)
}

func TestRelationOfNone(t *testing.T) {
	r, code := impl.RelationOf(1, nil)
	equal(t, "code", code, int64(impl.OK))
	equal(t, "text", impl.RelationText(r), "relation 1 1 0\nno 0 0\n")
	r, code = impl.RelationOf(3, [][]string{})
	equal(t, "code", code, int64(impl.OK))
	equal(t, "states", len(r.Next), 1)
}

func times(n int, words ...string) [][]string {
	return slices.Repeat([][]string{words}, n)
}

func TestRelationOfErrors(t *testing.T) {
	long := strings.Repeat("a", impl.MaxWord)
	for _, c := range []struct {
		name   string
		tapes  int64
		tuples [][]string
		code   int64
	}{
		{"MaxListed", 1, times(impl.MaxListed, "ab"), impl.OK},
		{"one tuple more", 1, times(impl.MaxListed+1, ""), impl.ErrRange},
		{"MaxRaw", 2, times(25, long, "b"), impl.OK},
		{"one column more", 2, append(times(25, long, "b"), []string{"", "a"}), impl.ErrLimit},
		{"no tapes", 0, nil, impl.ErrRange},
		{"tuples without words", 0, times(1), impl.ErrRange},
		{"MaxTapes", 3, times(1, "", "a", "b"), impl.OK},
		{"one tape more", 4, times(1, "", "a", "b", "a"), impl.ErrRange},
		{"fewer than none", -1, nil, impl.ErrRange},
		{"very many tapes", 1 << 62, nil, impl.ErrRange},
		{"too few words", 2, append(times(3, "a", "b"), []string{"a"}), impl.ErrRange},
		{"too many words", 2, append(times(3, "a", "b"), []string{"a", "", ""}), impl.ErrRange},
		{"no word", 2, append(times(3, "a", "b"), nil), impl.ErrRange},
		{"a text that is no word, last", 4, append(times(impl.MaxListed+1, "a"), []string{"", "c"}), impl.ErrInvalid},
		{"a word that is too long", 1, times(1, long+"a"), impl.ErrInvalid},
		{"too few words behind too many columns", 1, append(times(impl.MaxListed-1, long), nil), impl.ErrRange},
	} {
		r, code := impl.RelationOf(c.tapes, c.tuples)
		equal(t, c.name, code, c.code)
		equal(t, c.name+": valid", impl.ValidRelation(r), c.code == impl.OK)
		if c.code != impl.OK {
			equal(t, c.name+": result with an error", r, impl.Relation{})
		}
	}
}

// restsOf counts what can be behind the beginnings of words, which is how many
// states the tidy relation of one tape has that takes them.
func restsOf(words []string) int {
	rests := map[string]bool{"none": true}
	for _, w := range words {
		for i := range len(w) + 1 {
			var list []string
			for _, other := range words {
				if rest, ok := strings.CutPrefix(other, w[:i]); ok {
					list = append(list, rest)
				}
			}
			slices.Sort(list)
			rests[strings.Join(slices.Compact(list), ",")] = true
		}
	}
	return len(rests)
}

func TestRelationOfLimitsOfStates(t *testing.T) {
	seen := map[int]bool{}
	for seed := range 4 {
		growWords(t, dice(seed), seen)
	}
	equal(t, "MaxStates has been reached", seen[impl.MaxStates], true)
	equal(t, "and exceeded by one", seen[impl.MaxStates+1], true)
}

func growWords(t *testing.T, d dice, seen map[int]bool) {
	words := make([]string, 5)
	for i := range words {
		for len(words[i]) < impl.MaxWord {
			words[i] += string("ab"[d.below(2)])
			var tuples [][]string
			for _, w := range words {
				tuples = append(tuples, []string{w})
			}
			r, code := impl.RelationOf(1, tuples)
			states := restsOf(words)
			seen[states] = true
			if states > impl.MaxStates {
				equal(t, "too many states", code, int64(impl.ErrLimit))
				equal(t, "too many states", r, impl.Relation{})
				continue
			}
			equal(t, "code", code, int64(impl.OK))
			equal(t, "states", len(r.Next), states)
		}
	}
}
