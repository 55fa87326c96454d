package tests

import (
	"slices"
	"strings"
	"testing"

	"loop.example/g01168/impl"
)

func TestCodeName(t *testing.T) {
	names := []string{"ok", "invalid", "range", "limit", "state", "syntax", "notfound", "budget", "proof"}
	codes := []int64{impl.OK, impl.ErrInvalid, impl.ErrRange, impl.ErrLimit, impl.ErrState, impl.ErrSyntax, impl.ErrNotFound, impl.ErrBudget, impl.ErrProof}
	for i, code := range codes {
		equal(t, "number of the code", code, int64(i))
		equal(t, "CodeName", impl.CodeName(code), names[i])
	}
	for _, code := range []int64{-1, 9, 10, 1 << 62, -1 << 63} {
		equal(t, "CodeName of another number", impl.CodeName(code), "")
	}
}

func TestValidWord(t *testing.T) {
	for _, w := range []string{"", "a", "b", "abba", strings.Repeat("b", impl.MaxWord)} {
		equal(t, "ValidWord of "+w, impl.ValidWord(w), true)
	}
	for _, w := range []string{"c", "A", "#", " a", "a\n", "a\x00", "ä", "\xff", strings.Repeat("b", impl.MaxWord+1)} {
		equal(t, "ValidWord of "+w, impl.ValidWord(w), false)
	}
}

func TestColumnsOfAllShortTuples(t *testing.T) {
	for tapes := int64(1); tapes <= 3; tapes++ {
		for _, words := range allTuples(tapes, 3) {
			list, code := impl.ColumnsOf(words)
			if code != impl.OK || !slices.Equal(list, numbersOf(words)) {
				t.Fatalf("ColumnsOf %q: %v, %d", words, list, code)
			}
			back, code := impl.WordsOf(tapes, list)
			if code != impl.OK || !slices.Equal(back, words) {
				t.Fatalf("WordsOf %v: %q, %d", list, back, code)
			}
		}
	}
}

// All lists of three columns: the right ones are those of the tuples, and no others.
func TestWordsOfAllShortLists(t *testing.T) {
	for tapes := int64(1); tapes <= 3; tapes++ {
		k := columns(tapes)
		right := 0
		for n := range k * k * k {
			list := []int64{n % k, n / k % k, n / k / k}
			words, code := impl.WordsOf(tapes, list)
			first, second, third := endedBy(tapes, list[0]), endedBy(tapes, list[1]), endedBy(tapes, list[2])
			if !goesOn(first, second) || !goesOn(second, third) {
				if code != impl.ErrState || words != nil {
					t.Fatalf("WordsOf %v: %q, %d, but they are not right", list, words, code)
				}
				continue
			}
			right++
			if code != impl.OK || !slices.Equal(numbersOf(words), list) {
				t.Fatalf("WordsOf %v: %q, %d", list, words, code)
			}
		}
		equal(t, "right lists", right, len(allTuples(tapes, 3))-len(allTuples(tapes, 2)))
	}
}

func TestColumnsOfErrors(t *testing.T) {
	long := strings.Repeat("ab", impl.MaxWord/2)
	list, code := impl.ColumnsOf([]string{long, "", long})
	equal(t, "longest words", code, int64(impl.OK))
	equal(t, "their columns", len(list), impl.MaxWord)
	list, code = impl.ColumnsOf([]string{"", "", ""})
	equal(t, "empty words", code, int64(impl.OK))
	equal(t, "their columns", len(list), 0)
	for _, c := range []struct {
		words []string
		code  int64
	}{
		{nil, impl.ErrRange},
		{[]string{"a", "b", "a", "b"}, impl.ErrRange},
		{[]string{"a", "b", "a", "#"}, impl.ErrInvalid},
		{[]string{"a", "c"}, impl.ErrInvalid},
		{[]string{long + "a"}, impl.ErrInvalid},
	} {
		list, code := impl.ColumnsOf(c.words)
		equal(t, strings.Join(c.words, ","), code, c.code)
		equal(t, "columns with an error", len(list), 0)
	}
}

func TestWordsOfErrors(t *testing.T) {
	for _, c := range []struct {
		tapes int64
		list  []int64
		code  int64
	}{
		{1, nil, impl.OK},
		{3, []int64{}, impl.OK},
		{1, make([]int64, impl.MaxWord), impl.OK},
		{1, make([]int64, impl.MaxWord+1), impl.ErrRange},
		{0, nil, impl.ErrRange},
		{4, nil, impl.ErrRange},
		{-1, nil, impl.ErrRange},
		{1 << 62, nil, impl.ErrRange},
		{1, []int64{1}, impl.OK},
		{1, []int64{2}, impl.ErrRange},
		{2, []int64{7}, impl.OK},
		{2, []int64{8}, impl.ErrRange},
		{3, []int64{25}, impl.OK},
		{3, []int64{26}, impl.ErrRange},
		{2, []int64{-1}, impl.ErrRange},
		{2, []int64{7, 3}, impl.ErrState},
		{2, []int64{7, 7}, impl.OK},
		{2, []int64{7, 3, 8}, impl.ErrRange},
		{2, []int64{6, 2}, impl.ErrState},
		{3, []int64{2, 0}, impl.ErrState},
		{3, []int64{2, 8, 26 - 3, 26 - 1}, impl.ErrState},
	} {
		words, code := impl.WordsOf(c.tapes, c.list)
		if code != c.code || code != impl.OK && words != nil || code == impl.OK && int64(len(words)) != c.tapes {
			t.Errorf("WordsOf %d %v: %q, %d, want %d", c.tapes, c.list, words, code, c.code)
		}
	}
	words, _ := impl.WordsOf(2, nil)
	equal(t, "words of no columns", words, []string{"", ""})
}

func TestColumnText(t *testing.T) {
	for tapes := int64(1); tapes <= 3; tapes++ {
		for c := range columns(tapes) {
			text, code := impl.ColumnText(tapes, c)
			sum, power := int64(0), int64(1)
			for _, letter := range []byte(text) {
				sum += power * int64(strings.IndexByte("ab#", letter))
				power *= 3
			}
			if code != impl.OK || int64(len(text)) != tapes || sum != c {
				t.Errorf("ColumnText %d %d: %q, %d", tapes, c, text, code)
			}
		}
	}
	for _, c := range [][2]int64{{0, 0}, {4, 0}, {-1, 0}, {1 << 62, 0}, {1, 2}, {2, 8}, {3, 26}, {1, -1}, {3, 1 << 62}} {
		text, code := impl.ColumnText(c[0], c[1])
		equal(t, "text with an error", text, "")
		equal(t, "code", code, int64(impl.ErrRange))
	}
}

func TestExamplesOfChapter1(t *testing.T) {
	list, _ := impl.ColumnsOf([]string{"ab", "b"})
	equal(t, "ColumnsOf", list, []int64{3, 7})
	words, _ := impl.WordsOf(2, []int64{3, 7})
	equal(t, "WordsOf", words, []string{"ab", "b"})
	even := relationFrom(t, "relation 1 2 0", "yes 1 0", "no 0 1")
	equal(t, "the words with an even number of a", even, evenA())
	count, _ := impl.CountTuples(even, 2)
	equal(t, "CountTuples", count, int64(2))
	empty, code := impl.RelationOf(1, [][]string{{""}})
	equal(t, "RelationOf", code, int64(impl.OK))
	equal(t, "its text", impl.RelationText(empty), "relation 1 2 0\nyes 1 1\nno 1 1\n")
}
