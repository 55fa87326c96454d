package tests

import (
	"slices"
	"strings"
	"testing"

	"loop.example/g01168/impl"
)

// knownRelations are those that the chapter names, each with the words of which
// it is told.
func knownRelations(t *testing.T) map[string]impl.Relation {
	list := map[string]impl.Relation{
		"EqualWords":        impl.EqualWords(),
		"IsPrefixRelation":  impl.IsPrefixRelation(),
		"OrderRelation":     impl.OrderRelation(),
		"SuccessorRelation": impl.SuccessorRelation(),
	}
	for name, kind := range map[string]int64{"RlEqual": impl.RlEqual, "RlLess": impl.RlLess, "RlAtMost": impl.RlAtMost} {
		list[name] = made(t)(impl.LengthRelation(kind))
	}
	return list
}

func TestKnownRelations(t *testing.T) {
	words := wordsUpTo(5)
	for name, r := range knownRelations(t) {
		equal(t, name+": valid", impl.ValidRelation(r), true)
		equal(t, name+": tapes", r.Tapes, int64(2))
		equal(t, name+": fault", faultOf(r), "")
		for i, u := range words {
			for j, w := range words {
				want := map[string]bool{
					"EqualWords":        u == w,
					"IsPrefixRelation":  strings.HasPrefix(w, u),
					"OrderRelation":     i < j,
					"SuccessorRelation": i+1 == j,
					"RlEqual":           len(u) == len(w),
					"RlLess":            len(u) < len(w),
					"RlAtMost":          len(u) <= len(w),
				}[name]
				if takes(r, []string{u, w}) != want {
					t.Fatalf("%s: %q and %q", name, u, w)
				}
			}
		}
	}
}

func TestKnownRelationsOfLongWords(t *testing.T) {
	long := strings.Repeat("b", impl.MaxWord-1)
	next := strings.Repeat("a", impl.MaxWord)
	for _, c := range []struct {
		name string
		r    impl.Relation
		u, w string
		yes  bool
	}{
		{"the next one is longer", impl.SuccessorRelation(), long, next, true},
		{"the next one is no longer", impl.SuccessorRelation(), long, next[1:], false},
		{"only one letter changes", impl.SuccessorRelation(), long + "a", long + "b", true},
		{"a letter is carried", impl.SuccessorRelation(), "a" + long, "b" + next[1:], true},
		{"no letter is carried", impl.SuccessorRelation(), "a" + long, "b" + long, false},
		{"longer", impl.OrderRelation(), long, next, true},
		{"the first letter decides", impl.OrderRelation(), "b" + next[1:], "a" + long, false},
		{"equal", impl.EqualWords(), long, long, true},
		{"a prefix", impl.IsPrefixRelation(), long, long + "a", true},
		{"no prefix", impl.IsPrefixRelation(), long + "a", long + "b", false},
	} {
		yes, code := impl.Holds(c.r, []string{c.u, c.w})
		equal(t, c.name, yes, c.yes)
		equal(t, c.name, code, int64(impl.OK))
	}
}

func TestLengthRelationErrors(t *testing.T) {
	for _, kind := range []int64{0, 4, -1, 1 << 62, -1 << 63} {
		r, code := impl.LengthRelation(kind)
		equal(t, "LengthRelation", code, int64(impl.ErrRange))
		equal(t, "LengthRelation", r, impl.Relation{})
	}
}

func TestAllTuples(t *testing.T) {
	for tapes := int64(1); tapes <= impl.MaxTapes; tapes++ {
		r, code := impl.AllTuples(tapes)
		equal(t, "code", code, int64(impl.OK))
		equal(t, "fault", faultOf(r), "")
		equal(t, "tapes", r.Tapes, tapes)
		equal(t, "takes all tuples", takeTheSame(r, everything(tapes)), true)
	}
	for _, tapes := range []int64{0, 4, -1, 1 << 62, -1 << 63} {
		r, code := impl.AllTuples(tapes)
		equal(t, "AllTuples", code, int64(impl.ErrRange))
		equal(t, "AllTuples", r, impl.Relation{})
	}
}

// What is returned belongs to the caller.
func TestKnownRelationsAreNew(t *testing.T) {
	for name, r := range knownRelations(t) {
		kept := copyOf(r)
		rowsAreApart(t, r)
		spoil(r)
		equal(t, name, knownRelations(t)[name], kept)
	}
	r, _ := impl.AllTuples(3)
	kept := copyOf(r)
	spoil(r)
	equal(t, "AllTuples", made(t)(impl.AllTuples(3)), kept)
}

func TestExamplesOfChapter2(t *testing.T) {
	prefix, all := impl.IsPrefixRelation(), made(t)(impl.AllTuples(1))
	equal(t, "SomeOn", made(t)(impl.SomeOn(prefix, 1)), all)
	equal(t, "ManyOn", made(t)(impl.ManyOn(prefix, 1)), all)
	empty := made(t)(impl.RelationOf(1, [][]string{{""}}))
	longer := made(t)(impl.SomeOn(made(t)(impl.LengthRelation(impl.RlLess)), 0))
	equal(t, "all words but the empty one", longer, made(t)(impl.OppositeRelation(empty)))
	equal(t, "prefixes of all words", made(t)(impl.AllOn(prefix, 1)), empty)
	next := impl.SuccessorRelation()
	twoSteps := made(t)(impl.ComposeRelations(next, next))
	equal(t, "the next but one", takes(twoSteps, []string{"", "b"}), true)
	equal(t, "the next one", takes(twoSteps, []string{"", "a"}), false)
	before := made(t)(impl.FixTape(impl.OrderRelation(), 1, "b"))
	list, code := impl.TuplesUpTo(before, impl.MaxLength)
	equal(t, "code", code, int64(impl.OK))
	equal(t, "before b", slices.Concat(list...), []string{"", "a"})
}
