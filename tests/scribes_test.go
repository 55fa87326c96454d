package tests

import (
	"slices"
	"strings"
	"testing"

	"loop.example/g01168/impl"
)

// Promise 21: scribes write the partners of letterwise functions.

// someScribes are scribes of all kinds.
func someScribes() []impl.Scribe {
	list := []impl.Scribe{
		scribeOf("y", [4]string{"0", "a", "0", "b"}),
		scribeOf("y", [4]string{"0", "b", "0", "a"}),
		scribeOf("n", [4]string{"0", "a", "0", "b"}),
		scribeOf("y", [4]string{"-", "-", "-", "-"}),
		scribeOf("n", [4]string{"-", "-", "-", "-"}),
		scribeOf("y", [4]string{"0", "a", "-", "-"}),
		scribeOf("yy", [4]string{"0", "a", "1", "b"}, [4]string{"1", "b", "0", "a"}),
		scribeOf("ny", [4]string{"1", "a", "1", "a"}, [4]string{"-", "-", "1", "b"}),
		scribeOf("yny", [4]string{"1", "b", "2", "b"}, [4]string{"1", "a", "1", "a"}, [4]string{"2", "b", "2", "b"}),
		longScribe(5),
	}
	d := dice(733)
	for range 120 {
		list = append(list, randomScribe(&d, 1+d.below(5)))
	}
	return list
}

func isWritten(t *testing.T, x impl.Scribe, u, want string, code int64) {
	t.Helper()
	w, got := impl.RunScribe(x, u)
	equal(t, "RunScribe of "+u, []any{w, got}, []any{want, code})
}

// writesAsTold looks at what a scribe writes, and at the relation of this.
func writesAsTold(t *testing.T, x impl.Scribe) (written int) {
	t.Helper()
	relation := made(t)(impl.RelationOfScribe(x))
	for _, u := range wordsUpTo(5) {
		want, writes := naiveRun(x, u)
		if !writes {
			isWritten(t, x, u, "", impl.ErrNotFound)
			equal(t, "partners of "+u, hasPartners(relation, u), false)
			continue
		}
		written++
		isWritten(t, x, u, want, impl.OK)
		isFirstPartner(t, relation, u, want, impl.OK)
	}
	for _, words := range allTuples(2, 3) {
		want, writes := naiveRun(x, words[0])
		if takes(relation, words) != (writes && want == words[1]) {
			t.Fatalf("RelationOfScribe of %v: %q", x, words)
		}
	}
	return written
}

func TestScribes(t *testing.T) {
	written := 0
	for _, x := range someScribes() {
		equal(t, "ValidScribe", impl.ValidScribe(x), true)
		written += writesAsTold(t, x)
		got, code := impl.RelationOfScribe(x)
		isMade(t, "RelationOfScribe", got, code, naiveScribeRelation(x), 0)
		equal(t, "what is written is a function", someHasTwo(got), false)
		yes, code := impl.IsLetterwise(got)
		equal(t, "IsLetterwise", []any{yes, code}, []any{true, int64(impl.OK)})
		back, code := impl.ScribeOf(got)
		sameScribe(t, "ScribeOf", back, code, naiveScribe(naiveScribeRelation(x)))
		again, code := impl.RelationOfScribe(back)
		isToldRelation(t, "RelationOfScribe", again, code, got, impl.OK)
		for _, u := range wordsUpTo(6) {
			w, code := impl.RunScribe(x, u)
			isWritten(t, back, u, w, code)
		}
		if t.Failed() {
			t.Fatalf("in %v", x)
		}
	}
	if written < 1500 {
		t.Errorf("only %d words are written, so the test tells little", written)
	}
}

// isLetterwiseUpTo looks at all pairs of words with at most n letters, as the document
// tells of words and their partners.
func isLetterwiseUpTo(f impl.Relation, n int) bool {
	begun := map[string]string{}
	for _, words := range takenUpTo(f, n) {
		u, w := words[0], words[1]
		if len(u) != len(w) {
			return false
		}
		for i := range len(u) + 1 {
			before, met := begun[u[:i]]
			if met && before != w[:i] {
				return false
			}
			begun[u[:i]] = w[:i]
		}
	}
	return true
}

func isLetterwise(t *testing.T, f impl.Relation, want bool) {
	t.Helper()
	yes, code := impl.IsLetterwise(f)
	equal(t, "IsLetterwise", []any{yes, code}, []any{want, int64(impl.OK)})
	got, code := impl.ScribeOf(f)
	if want {
		sameScribe(t, "ScribeOf", got, code, naiveScribe(f))
	} else {
		isNoScribe(t, "ScribeOf", got, code, impl.ErrState)
	}
}

// With at most two states that lead to an accepting one, there are short words that
// tell.
func TestLetterwiseFunctions(t *testing.T) {
	seen := map[bool]int{}
	d := dice(739)
	var list []impl.Relation
	for range 250 {
		const dead = 2
		r := randomRelation(&d, 2, 3)
		r.Start, r.Accept = 0, []bool{true, d.below(2) == 0, false}
		for s := range r.Next {
			for c := range r.Next[s] {
				hasPad := c%3 == 2 || c > 5
				if s == dead || hasPad && d.below(20) > 0 || d.below(2) == 0 {
					r.Next[s][c] = dead
				}
			}
		}
		list = append(list, r)
	}
	for range 50 {
		list = append(list, randomRelation(&d, 2, 2))
	}
	for _, f := range list {
		want := isLetterwiseUpTo(f, 5)
		isLetterwise(t, f, want)
		seen[want]++
	}
	if seen[true] < 80 || seen[false] < 80 {
		t.Errorf("%v are letterwise, so the test tells little", seen)
	}
	for _, f := range pairsToChoose(t) {
		yes, code := impl.IsLetterwise(f)
		equal(t, "IsLetterwise", code, int64(impl.OK))
		if yes != isLetterwiseUpTo(f, 4) {
			t.Fatalf("IsLetterwise of %v: %v", f, yes)
		}
		isLetterwise(t, f, yes)
	}
}

func TestKnownLetterwiseFunctions(t *testing.T) {
	next := impl.SuccessorRelation()
	for _, c := range []struct {
		what string
		f    impl.Relation
		want bool
	}{
		{"equal words", impl.EqualWords(), true},
		{"both letters exchanged", flipping(), true},
		{"the letters before", delaying(), true},
		{"up to a letter", addingUp(), true},
		{"some equal words", equalIn(evenA()), true},
		{"one word", twice(7), true},
		{"nothing", nothing(2), true},
		{"the next number", nextDigits(), true},
		{"words that differ behind what is alike", onlyPairs(t, []string{"ab", "bb"}, []string{"aa", "ba"}), true},
		{"words of which one begins another one", onlyPairs(t, []string{"a", "b"}, []string{"ab", "ba"}, []string{"", ""}), true},
		{"the letters behind", lookingAhead(), false},
		{"a letter that depends on the length", onlyPairs(t, []string{"a", "b"}, []string{"ab", "aa"}), false},
		{"a letter that depends on the next one", onlyPairs(t, []string{"aa", "ab"}, []string{"ab", "bb"}), false},
		{"two partners", onlyPairs(t, []string{"ab", "ab"}, []string{"ab", "aa"}), false},
		{"a letter behind", lengthening(0), false},
		{"one letter less", turnedOver(lengthening(0)), false},
		{"one word that is longer", onlyPairs(t, []string{"", "a"}), false},
		{"one word that is shorter", onlyPairs(t, []string{"b", ""}), false},
		{"the empty word for all", emptying(), false},
		{"the next word", next, false},
		{"the word before", inverseOf(t, next), false},
		{"words of one length", lengths(t, impl.RlEqual), false},
		{"all", everything(2), false},
		{"the order", impl.OrderRelation(), false},
	} {
		equal(t, c.what, isLetterwiseUpTo(c.f, 3), c.want)
		isLetterwise(t, c.f, c.want)
		isLetterwise(t, naiveTidy(c.f), c.want)
		if len(c.f.Next) < 50 {
			isLetterwise(t, padded(c.f), c.want)
		}
	}
}

// The states are numbered as they are met, "a" before "b", whatever is written, and
// not as those of the tidy relation.
func TestOrderOfStatesOfScribes(t *testing.T) {
	equalScribe := scribeOf("y", [4]string{"0", "a", "0", "b"})
	got, code := impl.ScribeOf(impl.EqualWords())
	sameScribe(t, "equal words", got, code, equalScribe)
	got, code = impl.ScribeOf(nothing(2))
	sameScribe(t, "nothing", got, code, scribeOf("n", [4]string{"-", "-", "-", "-"}))
	got, code = impl.ScribeOf(onlyPairs(t, []string{"", ""}))
	sameScribe(t, "the empty word", got, code, scribeOf("y", [4]string{"-", "-", "-", "-"}))
	got, code = impl.ScribeOf(onlyPairs(t, []string{"b", "a"}))
	sameScribe(t, "one letter", got, code, scribeOf("ny", [4]string{"-", "-", "1", "a"}, [4]string{"-", "-", "-", "-"}))
	// The columns of "b" and "a" come before those of "a" and "b".
	f := onlyPairs(t, []string{"aa", "bb"}, []string{"b", "a"})
	tidy := made(t)(impl.TidyRelation(f))
	equal(t, "columns", tidy.Next[0][1] < tidy.Next[0][3], true)
	got, code = impl.ScribeOf(f)
	sameScribe(t, "two words", got, code, scribeOf("nny", [4]string{"1", "b", "2", "a"}, [4]string{"2", "b", "-", "-"}, [4]string{"-", "-", "-", "-"}))
	for _, x := range []impl.Scribe{equalScribe, scribeOf("yn", [4]string{"1", "b", "0", "a"}, [4]string{"-", "-", "0", "b"})} {
		got, code = impl.ScribeOf(made(t)(impl.RelationOfScribe(x)))
		sameScribe(t, "of a scribe", got, code, x)
	}
}

func TestRunScribe(t *testing.T) {
	x := scribeOf("yn", [4]string{"1", "b", "0", "a"}, [4]string{"-", "-", "0", "b"})
	isWritten(t, x, "", "", impl.OK)
	isWritten(t, x, "b", "a", impl.OK)
	isWritten(t, x, "abbab", "bbabb", impl.OK)
	isWritten(t, x, "a", "", impl.ErrNotFound)
	isWritten(t, x, "ba", "", impl.ErrNotFound)
	isWritten(t, x, "aa", "", impl.ErrNotFound)
	isWritten(t, x, "aab", "", impl.ErrNotFound)
	isWritten(t, x, strings.Repeat("b", impl.MaxWord), strings.Repeat("a", impl.MaxWord), impl.OK)
	isWritten(t, x, strings.Repeat("ab", impl.MaxWord/2), strings.Repeat("b", impl.MaxWord), impl.OK)
	for _, u := range []string{"c", "A", "ab ", "-", strings.Repeat("b", impl.MaxWord+1)} {
		isWritten(t, x, u, "", impl.ErrInvalid)
	}
	for _, y := range wrongScribes() {
		isWritten(t, y, "", "", impl.ErrInvalid)
		isWritten(t, y, "c", "", impl.ErrInvalid)
		isWritten(t, y, "ab", "", impl.ErrInvalid)
		got, code := impl.RelationOfScribe(y)
		isToldRelation(t, "RelationOfScribe", got, code, impl.Relation{}, impl.ErrInvalid)
	}
}

func TestValidScribe(t *testing.T) {
	for i, x := range wrongScribes() {
		if impl.ValidScribe(x) {
			t.Errorf("%d: %v is valid", i, x)
		}
	}
	for _, n := range []int64{1, 2, impl.MaxScribe - 1, impl.MaxScribe} {
		equal(t, "ValidScribe", impl.ValidScribe(longScribe(n)), true)
	}
	equal(t, "one state too many", impl.ValidScribe(longScribe(impl.MaxScribe+1)), false)
	equal(t, "no state", impl.ValidScribe(impl.Scribe{}), false)
}

func TestSameScribe(t *testing.T) {
	list := append(someScribes(), wrongScribes()...)
	for _, x := range list {
		equal(t, "itself", impl.SameScribe(x, copyOfScribe(x)), true)
		for _, change := range []func(y *impl.Scribe){
			func(y *impl.Scribe) { y.Accept = append(y.Accept, false) },
			func(y *impl.Scribe) { y.Next = append(y.Next, [2]int64{}) },
			func(y *impl.Scribe) { y.Out = append(y.Out, [2]string{}) },
			func(y *impl.Scribe) { y.Accept[0] = !y.Accept[0] },
			func(y *impl.Scribe) { y.Next[len(y.Next)-1][1]++ },
			func(y *impl.Scribe) { y.Next[0][0] = -5 },
			func(y *impl.Scribe) { y.Out[len(y.Out)-1][1] += "a" },
			func(y *impl.Scribe) { y.Out[0][0] = "c#" },
		} {
			if y := copyOfScribe(x); len(x.Accept) > 0 && len(x.Next) > 0 && len(x.Out) > 0 {
				change(&y)
				equal(t, "changed", impl.SameScribe(x, y), false)
				equal(t, "changed", impl.SameScribe(y, x), false)
			}
		}
	}
	equal(t, "nil and empty", impl.SameScribe(impl.Scribe{}, impl.Scribe{Accept: []bool{}, Next: [][2]int64{}, Out: [][2]string{}}), true)
}

// ofEqualWords is a scribe of n states of which no two could be one.
func ofEqualWords(n int64) impl.Scribe {
	x := longScribe(n)
	x.Out[0][0] = "a"
	return x
}

// A scribe may have as many states as a relation, but the relation has one more, which
// is left by no column.
func TestLimitsOfScribes(t *testing.T) {
	for n := int64(impl.MaxScribe - 2); n <= impl.MaxScribe; n++ {
		for _, x := range []impl.Scribe{longScribe(n), ofEqualWords(n)} {
			got, code := impl.RelationOfScribe(x)
			equal(t, "states", isMade(t, "RelationOfScribe", got, code, naiveScribeRelation(x), 0), int(n)+1)
			if n == impl.MaxScribe {
				equal(t, "RelationOfScribe", code, int64(impl.ErrLimit))
				continue
			}
			back, code := impl.ScribeOf(got)
			sameScribe(t, "ScribeOf", back, code, x)
		}
	}
	// All of these are one state of the tidy relation, or are not reached.
	alike := longScribe(impl.MaxScribe)
	for s := range alike.Accept {
		alike.Accept[s], alike.Out[s] = true, [2]string{"a", "b"}
	}
	equal(t, "RelationOfScribe", made(t)(impl.RelationOfScribe(alike)), impl.EqualWords())
	lone := longScribe(impl.MaxScribe)
	lone.Next[0] = [2]int64{0, 0}
	got := made(t)(impl.RelationOfScribe(lone))
	equal(t, "states", len(got.Next), 2)
	word := strings.Repeat("ab", impl.MaxWord/2)
	isWritten(t, lone, word, strings.Repeat("b", impl.MaxWord), impl.OK)
	isWritten(t, longScribe(impl.MaxScribe), word, "", impl.ErrNotFound)
	isWritten(t, longScribe(impl.MaxWord), word, "b"+word[1:], impl.OK)
}

// That a large relation is letterwise can be seen without choosing partners, and that
// it is not as well.
func TestScribesOfLargeRelations(t *testing.T) {
	f := naiveScribeRelation(longScribe(149))
	equal(t, "ChooseFirst", codeOf(impl.ChooseFirst(f)), int64(impl.ErrLimit))
	isLetterwise(t, f, true)
	isLetterwise(t, twice(148), true)
	isLetterwise(t, equalIn(lasso(1, 147)), true)
	for _, r := range []impl.Relation{turning(2, 60), turning(2, 150), ring(148), ring(150), evenRing(2, 149)} {
		isLetterwise(t, r, false)
	}
	// 150 states with lists of columns that are not right.
	loose := padded(naiveScribeRelation(longScribe(70)))
	equal(t, "states", len(loose.Next), 2*71+1)
	isLetterwise(t, loose, true)
}

func TestErrorsOfScribes(t *testing.T) {
	for _, f := range wrongRelations() {
		yes, code := impl.IsLetterwise(f)
		equal(t, "IsLetterwise", []any{yes, code}, []any{false, int64(impl.ErrInvalid)})
		got, code := impl.ScribeOf(f)
		isNoScribe(t, "ScribeOf", got, code, impl.ErrInvalid)
	}
	for _, f := range []impl.Relation{everything(1), nothing(1), nothing(3), everything(3), evenA(), turning(3, 150)} {
		yes, code := impl.IsLetterwise(f)
		equal(t, "IsLetterwise", []any{yes, code}, []any{false, int64(impl.ErrRange)})
		got, code := impl.ScribeOf(f)
		isNoScribe(t, "ScribeOf", got, code, impl.ErrRange)
	}
	equal(t, "wrong scribes", slices.ContainsFunc(wrongScribes(), impl.ValidScribe), false)
}
