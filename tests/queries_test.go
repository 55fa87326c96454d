package tests

import (
	"math"
	"slices"
	"strings"
	"testing"

	"loop.example/g01168/impl"
)

func TestExamplesOfChapter8(t *testing.T) {
	s := ofAllWords(1, 2, "R0(xy)")
	s.shop.Presentation.Relations = []impl.Relation{impl.IsPrefixRelation()}
	answers, code := impl.AnswersOfShop(s.shop, 0)
	equal(t, "answers", []any{answers, code}, []any{[][]string{{"", ""}, {"a", "a"}, {"", "a"}, {"b", "b"}, {"", "b"}}, int64(impl.OK)})
	plan, code := impl.FinishDeeds(s.shop, nil)
	equal(t, "plan", []any{plan, code}, []any{deedsOf("ask 0, 2*deliver 0, ask 0, 2*deliver 0, ask 0, 2*deliver 0, save 0"), int64(impl.OK)})
}

func TestConstantsOfChapter8(t *testing.T) {
	equal(t, "limits", []int64{impl.MaxQueries, impl.MaxPage, impl.MaxWire, impl.MaxDeeds, impl.MaxScriptText, impl.MaxScriptLines}, []int64{4, 20, 12, 400, 20000, 120})
	equal(t, "kinds", []int64{impl.DdAsk, impl.DdDeliver, impl.DdCopy, impl.DdDrop, impl.DdSave, impl.DdCrash}, []int64{1, 2, 3, 4, 5, 6})
}

func isShop(t *testing.T, v impl.Shop, want bool) {
	t.Helper()
	if got := impl.ValidShop(v); got != want {
		t.Errorf("%v with length %d and pages of %d: got %v, want %v", v.Queries, v.Length, v.Page, got, want)
	}
}

func TestValidShop(t *testing.T) {
	for _, s := range someStores() {
		isShop(t, s.shop, true)
	}
	for _, v := range badShops() {
		isShop(t, v, false)
	}
}

// Each limit is reached exactly, and exceeded by one.
func TestLimitsOfShops(t *testing.T) {
	few := []string{"", "ab"}
	for count := range 7 {
		isShop(t, ofWords(few, 2, 2, slices.Repeat([]string{"x=x"}, count)...).shop, count >= 1 && count <= 4)
	}
	for n := int64(-2); n <= 25; n++ {
		isShop(t, ofWords(few, 2, n, "x=x").shop, n >= 1 && n <= 20)
		isShop(t, ofWords(few, n, 2, "x=x").shop, n >= 0 && n <= 18)
	}
	for _, count := range []int{0, 1, 299, 300, 301, 400} {
		isShop(t, ofCount(count, 20).shop, count <= 300)
	}
	// Pairs of equal words: 2 to the power of 8, less one, and then twice as many.
	isShop(t, ofAllWords(7, 1, "x=y").shop, true)
	isShop(t, ofAllWords(8, 1, "x=y").shop, false)
	// Elements with more letters are left out, also if there are too many of them.
	isShop(t, ofAllWords(7, 1, "R0(xx)", "x=x", "AyR0(xy)", "!y=y").shop, true)
	isShop(t, ofAllWords(impl.MaxLength, 1, "AyR0(xy)").shop, true)
}

func TestLongestFormulasOfShops(t *testing.T) {
	longest := strings.Repeat("!", 20) + "x=x"
	for len(longest) < impl.MaxFormula-6 {
		longest = "(" + longest + "&x=x)"
		if depth, code := impl.NestingOf(longest); code != impl.OK || depth == impl.MaxNested {
			break
		}
	}
	v := ofWords([]string{"", "b"}, 1, 1, longest).shop
	isShop(t, v, true)
	v.Queries = []string{"!" + longest}
	isShop(t, v, false)
}

func isAnswersOf(t *testing.T, v impl.Shop, query int64, want [][]string, code int64) {
	t.Helper()
	got, told := impl.AnswersOfShop(v, query)
	equal(t, "answers", []any{plainTuples(got), told}, []any{plainTuples(want), code})
}

func TestAnswersOfShop(t *testing.T) {
	for _, s := range someStores() {
		for i := range s.queries {
			isAnswersOf(t, s.shop, int64(i), s.answers(i), impl.OK)
		}
		for _, query := range []int64{math.MinInt64, -1, int64(len(s.queries)), impl.MaxQueries, math.MaxInt64} {
			isAnswersOf(t, s.shop, query, nil, impl.ErrRange)
		}
	}
	for _, v := range badShops() {
		for _, query := range []int64{-1, 0, 5} {
			isAnswersOf(t, v, query, nil, impl.ErrInvalid)
		}
	}
}

func isPage(t *testing.T, v impl.Shop, query int64, last []string, want [][]string, end bool, code int64) {
	t.Helper()
	page, got, told := impl.PageBehind(v, query, last)
	equal(t, "page behind "+strings.Join(last, ","), []any{plainTuples(page), got, told}, []any{plainTuples(want), end, code})
}

// Each page begins where the one before it ends, up to the last one.
func TestPagesOneBehindTheOther(t *testing.T) {
	for _, s := range someStores() {
		for page := int64(1); page <= impl.MaxPage; page++ {
			s.shop.Page = page
			for i := range s.queries {
				answers := s.answers(i)
				isPagedThrough(t, s.shop, int64(i), answers)
			}
		}
	}
	for _, count := range []int{0, 1, 19, 20, 21, 39, 40, 41, 300} {
		s := ofCount(count, 20)
		isPagedThrough(t, s.shop, 0, s.answers(0))
	}
}

func isPagedThrough(t *testing.T, v impl.Shop, query int64, answers [][]string) {
	t.Helper()
	var read [][]string
	var last []string
	for range len(answers) + 1 {
		page, end, code := impl.PageBehind(v, query, last)
		read = append(read, page...)
		left := len(answers) - len(read)
		if code != impl.OK || end != (left == 0) || len(page) > int(v.Page) || !end && len(page) < int(v.Page) {
			t.Fatalf("page of %d behind %v, %v, %d, with %d left", len(page), last, end, code, left)
		}
		if end {
			break
		}
		last = read[len(read)-1]
	}
	equal(t, "pages of "+v.Queries[query], plainTuples(read), plainTuples(answers))
}

// A tuple that is no answer, also one of words that are no elements, has its place
// among the answers all the same.
func TestPagesBehindAllShortTuples(t *testing.T) {
	for _, s := range someStores() {
		for i, q := range s.queries {
			isPage(t, s.shop, int64(i), nil, firstPage(s, i), len(s.answers(i)) <= int(s.shop.Page), impl.OK)
			isPage(t, s.shop, int64(i), []string{}, firstPage(s, i), len(s.answers(i)) <= int(s.shop.Page), impl.OK)
			longest := []int{0, 4, 2, 1}[q.tapes]
			for _, last := range allTuples(int64(q.tapes), longest) {
				want, end := s.pageBehind(i, last)
				isPage(t, s.shop, int64(i), last, want, end, impl.OK)
			}
		}
	}
}

func firstPage(s store, query int) [][]string {
	answers := s.answers(query)
	return answers[:min(len(answers), int(s.shop.Page))]
}

func TestPagesOfAllSizes(t *testing.T) {
	five := [][]string{{"", ""}, {"a", "a"}, {"", "a"}, {"b", "b"}, {"", "b"}}
	long := strings.Repeat("b", impl.MaxWord)
	for _, c := range []struct {
		page  int64
		last  []string
		count int
		end   bool
	}{
		{1, nil, 1, false}, {4, nil, 4, false}, {5, nil, 5, true}, {6, nil, 5, true}, {20, nil, 5, true},
		{3, []string{"", ""}, 3, false}, {4, []string{"", ""}, 4, true}, {5, []string{"", ""}, 4, true},
		{1, []string{"b", "b"}, 1, true}, {2, []string{"b", "b"}, 1, true}, {1, []string{"", "b"}, 0, true}, {20, []string{"", "b"}, 0, true},
		{1, []string{"b", "a"}, 1, false}, {2, []string{"b", "a"}, 2, false}, {3, []string{"b", "a"}, 3, true}, {4, []string{"b", "a"}, 3, true},
		{1, []string{"a", "b"}, 1, false}, {2, []string{"a", "b"}, 2, true}, {1, []string{"a", ""}, 0, true}, {2, []string{"b", ""}, 0, true},
		{20, []string{"", "aa"}, 0, true}, {20, []string{long, ""}, 0, true}, {20, []string{"", long}, 0, true}, {20, []string{long, long}, 0, true},
	} {
		s := ofAllWords(1, c.page, "R0(xy)")
		from := 0
		for from < len(five) && len(c.last) > 0 && inOrder(five[from], c.last) <= 0 {
			from++
		}
		isPage(t, s.shop, 0, c.last, five[from:from+c.count], c.end, impl.OK)
	}
}

// The columns are 0 for "a" and "a", 1 for "b" and "a", 2 for "#" and "a", and so on.
func TestPagesBehindTuplesThatAreNoAnswers(t *testing.T) {
	s := ofAllWords(1, 1, "R0(xy)")
	isPage(t, s.shop, 0, []string{"a", "a"}, [][]string{{"", "a"}}, false, impl.OK)
	isPage(t, s.shop, 0, []string{"b", "a"}, [][]string{{"", "a"}}, false, impl.OK)
	isPage(t, s.shop, 0, []string{"", "a"}, [][]string{{"b", "b"}}, false, impl.OK)
	isPage(t, s.shop, 0, []string{"a", "b"}, [][]string{{"b", "b"}}, false, impl.OK)
	isPage(t, s.shop, 0, []string{"b", "b"}, [][]string{{"", "b"}}, true, impl.OK)
	isPage(t, s.shop, 0, []string{"", "b"}, nil, true, impl.OK)
	isPage(t, s.shop, 0, []string{"a", ""}, nil, true, impl.OK)
	isPage(t, s.shop, 0, []string{"", "aa"}, nil, true, impl.OK)
	one := ofAllWords(2, 2, "x=x")
	isPage(t, one.shop, 0, []string{""}, [][]string{{"a"}, {"b"}}, false, impl.OK)
	isPage(t, one.shop, 0, []string{"ab"}, [][]string{{"ba"}, {"bb"}}, true, impl.OK)
	none := ofAllWords(1, 2, "!y=y")
	isPage(t, none.shop, 0, nil, nil, true, impl.OK)
	isPage(t, none.shop, 0, []string{""}, nil, true, impl.OK)
}

func TestErrorsOfPages(t *testing.T) {
	long := strings.Repeat("a", impl.MaxWord+1)
	wrong := [][]string{{"a"}, {"a", "b", "a"}, {"a", "b", "a", "b"}, {"", "c"}, {"A", ""}, {"#", "a"}, {"", " "}, {"", "a\n"}, {long, ""}, {"", long}, {"c"}, {"ä", ""}}
	for _, s := range []store{ofAllWords(1, 2, "R0(xy)", "R0(zx)"), ofWords(nil, 1, 2, "x=y", "R1(yz)")} {
		for _, last := range wrong {
			isPage(t, s.shop, 0, last, nil, false, impl.ErrSyntax)
			isPage(t, s.shop, 1, last, nil, false, impl.ErrSyntax)
			for _, query := range []int64{-1, 2, math.MaxInt64, math.MinInt64} {
				isPage(t, s.shop, query, last, nil, false, impl.ErrRange)
				isPage(t, s.shop, query, nil, nil, false, impl.ErrRange)
			}
		}
		want, end := s.pageBehind(0, []string{long[1:], "b"})
		isPage(t, s.shop, 0, []string{long[1:], "b"}, want, end, impl.OK)
	}
	three := ofAllWords(1, 2, "(R0(xy)&R0(yz))", "x=x")
	isPage(t, three.shop, 0, []string{"a", "b"}, nil, false, impl.ErrSyntax)
	isPage(t, three.shop, 1, []string{"a", "b"}, nil, false, impl.ErrSyntax)
	isPage(t, three.shop, 1, []string{"a"}, [][]string{{"b"}}, true, impl.OK)
	for _, v := range badShops() {
		for _, last := range [][]string{nil, {"a", "b"}, {"c"}} {
			isPage(t, v, 0, last, nil, false, impl.ErrInvalid)
			isPage(t, v, 9, last, nil, false, impl.ErrInvalid)
		}
	}
}

// What readers know are the first answers, whatever is lost, and in the end all.
func TestReadersKnowTheFirstAnswers(t *testing.T) {
	d := dice(811)
	for _, s := range someStores() {
		for range 25 {
			deeds := randomDeeds(&d, d.below(90))
			for i := range s.queries {
				known, done, code := impl.KnownAt(s.shop, deeds, int64(i))
				answers := s.answers(i)
				if code != impl.OK || len(known) > len(answers) || done && len(known) < len(answers) {
					t.Fatalf("%d answers of %d are known, %v, %d", len(known), len(answers), done, code)
				}
				equal(t, "first answers", plainTuples(known), plainTuples(answers[:len(known)]))
			}
			allAreKnownInTheEnd(t, s, deeds)
		}
	}
}

func allAreKnownInTheEnd(t *testing.T, s store, deeds []impl.Deed) {
	t.Helper()
	plan, code := impl.FinishDeeds(s.shop, deeds)
	if code == impl.ErrLimit {
		equal(t, "deeds that are too many", len(deeds)+len(newCounterAfter(s, deeds).finish()) > impl.MaxDeeds, true)
		return
	}
	all := slices.Concat(deeds, plan)
	desk, _, code := impl.DeskAfter(s.shop, all)
	equal(t, "code", code, int64(impl.OK))
	equal(t, "wire", len(desk.Wire), 0)
	for i := range s.queries {
		want := impl.Reader{Known: s.answers(i), Done: true}
		equal(t, "in the end", plainReaders([]impl.Reader{desk.Readers[i], desk.Saved[i]}), plainReaders([]impl.Reader{want, want}))
		known, done, code := impl.KnownAt(s.shop, all, int64(i))
		equal(t, "known in the end", []any{plainTuples(known), done, code}, []any{plainTuples(s.answers(i)), true, int64(impl.OK)})
	}
}

func newCounterAfter(s store, deeds []impl.Deed) *counter {
	n := newCounter(s)
	n.doAll(deeds)
	return n
}
