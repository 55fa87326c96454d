package tests

import (
	"maps"
	"math"
	"slices"
	"strconv"
	"strings"
	"testing"

	"loop.example/g01168/impl"
)

func TestTextsOfDeeds(t *testing.T) {
	numbers := []int64{0, 1, 2, 9, 10, 11, 99, 100, 998, 999}
	for kind := int64(1); kind <= 6; kind++ {
		for _, a := range numbers {
			d := impl.Deed{Kind: kind, A: a}
			equal(t, "ValidDeed", impl.ValidDeed(d), true)
			equal(t, "DeedText", impl.DeedText(d), nameOfKind(kind)+" "+strconv.Itoa(int(a)))
			isReadAs(t, deedText(d), d, impl.OK)
		}
	}
	for kind := int64(-3); kind <= 10; kind++ {
		for _, a := range append(numbers, -1, -2, 1000, 1001, math.MinInt64, math.MaxInt64) {
			d := impl.Deed{Kind: kind, A: a}
			valid := kind >= 1 && kind <= 6 && a >= 0 && a <= 999
			equal(t, "ValidDeed", impl.ValidDeed(d), valid)
			equal(t, "DeedText", impl.DeedText(d) != "", valid)
		}
	}
	for _, kind := range []int64{math.MinInt64, math.MaxInt64, 1 << 32, 1<<32 + 1, 1 << 8, 257} {
		equal(t, "ValidDeed", impl.ValidDeed(impl.Deed{Kind: kind}), false)
		equal(t, "DeedText", impl.DeedText(impl.Deed{Kind: kind}), "")
	}
}

func isReadAs(t *testing.T, text string, want impl.Deed, code int64) {
	t.Helper()
	got, told := impl.ReadDeed(text)
	if got != want || told != code {
		t.Errorf("%q: got %v %d, want %v %d", text, got, told, want, code)
	}
}

// nearlyDeeds are texts that are no deeds.
func nearlyDeeds() []string {
	list := []string{"", " ", "0", " 0", "ask", "ask ", "ask  0", " ask 0", "ask 0 ", "ask 0 0", "ask 0\n", "\nask 0", "ask\n0", "ask\t0", "ask 0\r",
		"ask 00", "ask 01", "ask 007", "ask -0", "ask -1", "ask +0", "ask +1", "ask 1000", "ask 0999", "ask 9999", "ask 18446744073709551616", "ask 9223372036854775808",
		"ask 0x1", "ask 1_0", "ask 1e1", "ask 1.0", "ask a", "ask ０", "Ask 0", "ASK 0", "asks 0", "as 0", "ask0", "ask:0", "ask,0", "ask\x00 0", "ask 0\x00",
		"known 0", "last 0", "error 0", "ok 0", "none 0", "1 0", "ask ask", "ask deliver 0", "deliver ask 0", "ask 0, ask 0", "ask 0\nask 0",
		"deliver", "copy", "drop", "save", "crash", "delivers 0", "deliver 1000", "copy 1000", "drop 1000", "save 1000", "crash 1000", "crash -1"}
	return append(list, "ask "+strings.Repeat("0", 100000), "ask "+strings.Repeat("9", 100000), strings.Repeat("ask ", 100000), strings.Repeat(" ", 100000))
}

func TestTextsThatAreNoDeeds(t *testing.T) {
	for _, text := range nearlyDeeds() {
		isReadAs(t, text, impl.Deed{}, impl.ErrSyntax)
	}
}

// A text is read just if it is that of a deed.
func TestTextsNextToThoseOfDeeds(t *testing.T) {
	texts := allDeeds()
	d := dice(821)
	for _, text := range slices.Sorted(maps.Keys(texts)) {
		isReadAs(t, text, texts[text], impl.OK)
		at := int(d.below(int64(len(text))))
		put := string("0129 -+\nask\x00"[d.below(12)])
		for _, near := range []string{text[:at] + text[at+1:], text[:at] + put + text[at:], text[:at] + put + text[at+1:], text + put, put + text} {
			code := int64(impl.OK)
			if _, isText := texts[near]; !isText {
				code = impl.ErrSyntax
			}
			isReadAs(t, near, texts[near], code)
		}
	}
}

// isDeskAs looks at everything that is told of deeds, as the tests count them.
func isDeskAs(t *testing.T, s store, deeds []impl.Deed) {
	t.Helper()
	n := newCounter(s)
	codes := n.doAll(deeds)
	done, refused, refusal := int64(0), int64(-1), int64(0)
	for i, code := range codes {
		if code == impl.OK {
			done++
		} else if refused < 0 {
			refused, refusal = int64(i), code
		}
	}
	desk, count, code := impl.DeskAfter(s.shop, deeds)
	equal(t, strings.Join(deedTexts(deeds), ", "), []any{plainDesk(desk), count, code}, []any{plainDesk(n.desk()), done, int64(impl.OK)})
	first, what, code := impl.RefusedDeed(s.shop, deeds)
	if refused < 0 {
		equal(t, "no deed is refused", []int64{first, what, code}, []int64{0, 0, impl.ErrNotFound})
	} else {
		equal(t, "refused deed", []int64{first, what, code}, []int64{refused, refusal, impl.OK})
	}
	for i, reader := range n.readers {
		known, isDone, code := impl.KnownAt(s.shop, deeds, int64(i))
		equal(t, "known", []any{plainTuples(known), isDone, code}, []any{plainTuples(n.answers[i][:reader.count]), reader.done, int64(impl.OK)})
	}
	isPlannedAs(t, s, deeds)
}

func isPlannedAs(t *testing.T, s store, deeds []impl.Deed) {
	t.Helper()
	want, code := newCounterAfter(s, deeds).finish(), int64(impl.OK)
	if len(deeds)+len(want) > impl.MaxDeeds {
		want, code = nil, impl.ErrLimit
	}
	plan, told := impl.FinishDeeds(s.shop, deeds)
	equal(t, "plan", []any{append([]impl.Deed(nil), plan...), told}, []any{want, code})
}

func TestDeedsAsTold(t *testing.T) {
	d := dice(823)
	for _, s := range someStores() {
		isDeskAs(t, s, nil)
		isDeskAs(t, s, []impl.Deed{})
		for range 40 {
			isDeskAs(t, s, randomDeeds(&d, 1+d.below(60)))
		}
		for range 3 {
			isDeskAs(t, s, randomDeeds(&d, impl.MaxDeeds))
		}
	}
}

// Random deeds have to meet all errors, and all that packets may do.
func TestRandomDeedsMeetAllErrors(t *testing.T) {
	d := dice(829)
	met := map[[2]int64]bool{}
	for _, s := range someStores() {
		for range 40 {
			deeds := randomDeeds(&d, 100)
			for i, code := range newCounter(s).doAll(deeds) {
				met[[2]int64{deeds[i].Kind, code}] = true
			}
		}
	}
	for kind := int64(1); kind <= 6; kind++ {
		equal(t, nameOfKind(kind), met[[2]int64{kind, impl.OK}] && met[[2]int64{kind, impl.ErrRange}], true)
	}
	equal(t, "further errors", met[[2]int64{1, impl.ErrState}] && met[[2]int64{1, impl.ErrLimit}] && met[[2]int64{3, impl.ErrLimit}], true)
	equal(t, "no others", len(met), 15)
}

// isRefused looks whether only the last deed is refused.
func isRefused(t *testing.T, s store, text string, want int64) {
	t.Helper()
	deeds := deedsOf(text)
	at, refusal, code := impl.RefusedDeed(s.shop, deeds)
	if want == impl.OK {
		equal(t, text, []int64{at, refusal, code}, []int64{0, 0, impl.ErrNotFound})
	} else {
		equal(t, text, []int64{at, refusal, code}, []int64{int64(len(deeds)) - 1, want, impl.OK})
	}
	_, count, _ := impl.DeskAfter(s.shop, deeds)
	equal(t, text, count < int64(len(deeds)), want != impl.OK)
	isDeskAs(t, s, deeds)
}

func TestErrorsOfEachKindOfDeed(t *testing.T) {
	s := ofAllWords(1, 20, "R0(xy)", "x=x")
	done := "ask 0, 2*deliver 0, "
	for text, want := range map[string]int64{
		"ask 0": impl.OK, "ask 1": impl.OK, "ask 2": impl.ErrRange, "ask 999": impl.ErrRange,
		"save 0": impl.OK, "save 1": impl.OK, "save 2": impl.ErrRange, "save 999": impl.ErrRange,
		"crash 0": impl.OK, "crash 1": impl.OK, "crash 2": impl.ErrRange, "crash 999": impl.ErrRange,
		"deliver 0": impl.ErrRange, "copy 0": impl.ErrRange, "drop 0": impl.ErrRange, "drop 999": impl.ErrRange,
		"ask 0, deliver 0": impl.OK, "ask 0, deliver 1": impl.ErrRange, "ask 0, copy 0": impl.OK, "ask 0, copy 1": impl.ErrRange,
		"ask 0, drop 0": impl.OK, "ask 0, drop 1": impl.ErrRange, "ask 0, drop 0, drop 0": impl.ErrRange, "ask 0, copy 0, drop 1": impl.OK,
		"ask 0, copy 0, deliver 1, deliver 1": impl.ErrRange, "2*ask 0, deliver 1, deliver 1, drop 1": impl.ErrRange,
		done + "ask 0": impl.ErrState, done + "ask 1": impl.OK, done + "save 0, crash 0, ask 0": impl.ErrState, done + "crash 0, ask 0": impl.OK,
		"12*ask 0": impl.OK, "13*ask 0": impl.ErrLimit, "12*ask 0, ask 1": impl.ErrLimit, "12*ask 0, ask 2": impl.ErrRange, "6*ask 0, 6*ask 1, ask 0": impl.ErrLimit,
		"12*ask 0, drop 11, ask 1": impl.OK, "12*ask 0, deliver 0": impl.OK, "12*ask 0, deliver 11, drop 12": impl.ErrRange, "12*ask 0, copy 0": impl.ErrLimit,
		"12*ask 0, copy 11": impl.ErrLimit, "12*ask 0, copy 12": impl.ErrRange, "12*ask 0, copy 999": impl.ErrRange, "11*ask 0, copy 0": impl.OK,
		"11*ask 0, copy 0, copy 10": impl.ErrLimit, "11*ask 0, copy 0, copy 11": impl.OK, "11*ask 0, copy 0, copy 12": impl.ErrRange,
		"12*ask 0, deliver 0, copy 11, ask 1": impl.ErrLimit, "12*ask 0, deliver 0, copy 11, ask 0": impl.ErrState, "12*ask 0, deliver 0, copy 11, ask 2": impl.ErrRange,
		"12*ask 0, deliver 0, copy 11, copy 0": impl.ErrLimit, "12*ask 0, deliver 0, deliver 11, copy 0": impl.OK, "12*ask 0, save 0": impl.OK, "12*ask 0, crash 1": impl.OK,
	} {
		isRefused(t, s, text, want)
	}
}

// isKnown tells how many answers the reader 0 knows, and whether it is done.
func isKnown(t *testing.T, s store, text string, count int, done bool) {
	t.Helper()
	known, isDone, code := impl.KnownAt(s.shop, deedsOf(text), 0)
	equal(t, text, []any{plainTuples(known), isDone, code}, []any{plainTuples(s.answers(0)[:count]), done, int64(impl.OK)})
	isDeskAs(t, s, deedsOf(text))
}

func TestPacketsThatComeIn(t *testing.T) {
	s := ofAllWords(1, 2, "R0(xy)", "!R0(xy)", "x=x")
	page := "ask 0, 2*deliver 0, "
	for _, c := range []struct {
		text  string
		count int
		done  bool
	}{
		{"", 0, false}, {"ask 0", 0, false}, {"ask 0, deliver 0", 0, false}, {"ask 0, drop 0", 0, false}, {"ask 0, deliver 0, drop 0", 0, false},
		{page, 2, false}, {page + page, 4, false}, {page + page + page, 5, true}, {page + page + page + page, 5, true},
		// The same page, twice and more often.
		{"ask 0, deliver 0, copy 0", 2, false}, {"ask 0, deliver 0, copy 0, deliver 0", 2, false}, {"ask 0, deliver 0, 5*copy 0, deliver 0", 2, false},
		{"ask 0, copy 0, deliver 1, 2*deliver 0", 2, false}, {"2*ask 0, 4*deliver 0", 2, false}, {"5*ask 0, 10*deliver 0", 2, false},
		// A page that is too late.
		{"2*ask 0, deliver 0, deliver 1, ask 0, deliver 1, deliver 1, deliver 0", 4, false},
		{"2*ask 0, deliver 0, deliver 1, ask 0, deliver 1, deliver 1, ask 0, deliver 1, deliver 1, deliver 0", 5, true},
		{"ask 0, deliver 0, copy 0, ask 0, deliver 1, deliver 1, ask 0, deliver 1, deliver 1, deliver 0", 5, true},
		{"ask 0, copy 0, deliver 1, ask 0, deliver 1, deliver 1, deliver 0, deliver 0", 4, false},
		// A request that is too late.
		{"ask 0, copy 0, deliver 1, deliver 0, deliver 0", 2, false},
		// Pages for others.
		{"ask 1, 2*deliver 0", 0, false}, {"ask 1, ask 0, ask 2, 6*deliver 0", 2, false}, {"ask 2, ask 1, 2*deliver 0, ask 0, 10*drop 0", 0, false},
		// Deeds that are left out, and those behind them.
		{"deliver 0, ask 0, deliver 7, 2*deliver 0, ask 3", 2, false}, {"13*ask 0, 12*deliver 0, 12*deliver 0", 2, false}, {"ask 3, save 3, crash 3, " + page, 2, false},
	} {
		isKnown(t, s, c.text, c.count, c.done)
	}
}

// A page ends the reading if it is the last one, also if it is full or empty.
func TestLastPagesThatComeIn(t *testing.T) {
	page := "ask 0, 2*deliver 0, "
	for _, c := range []struct {
		count, page int
		text        string
		known       int
		done        bool
	}{
		{0, 1, "", 0, false}, {0, 1, page, 0, true}, {0, 20, page, 0, true}, {0, 2, "ask 0, deliver 0, copy 0, copy 0", 0, true},
		{1, 1, page, 1, true}, {1, 2, page, 1, true}, {2, 1, page, 1, false}, {2, 1, page + page, 2, true}, {2, 2, page, 2, true}, {3, 2, page, 2, false}, {3, 2, page + page, 3, true},
		{4, 2, page + page, 4, true}, {19, 20, page, 19, true}, {20, 20, page, 20, true}, {21, 20, page, 20, false}, {21, 20, page + page, 21, true}, {300, 20, page + page, 40, false},
	} {
		isKnown(t, ofCount(c.count, int64(c.page)), c.text, c.known, c.done)
	}
}

func TestCrashes(t *testing.T) {
	s := ofAllWords(1, 2, "R0(xy)", "x=x")
	page := "ask 0, 2*deliver 0, "
	all := page + page + page
	for _, c := range []struct {
		text  string
		count int
		done  bool
	}{
		// Before anything has been saved.
		{"crash 0", 0, false}, {page + "crash 0", 0, false}, {all + "crash 0", 0, false}, {page + "crash 0, crash 0, " + page, 2, false}, {all + "crash 0, " + all, 5, true},
		// Behind a save.
		{page + "save 0, crash 0", 2, false}, {page + "save 0, " + page + "crash 0", 2, false}, {page + "save 0, " + page + page + "crash 0", 2, false},
		{page + "save 0, " + page + "crash 0, crash 0", 2, false}, {page + "save 0, " + page + "crash 0, " + page, 4, false}, {page + "save 0, " + page + "crash 0, " + page + "crash 0", 2, false},
		{page + "save 0, " + page + "save 0, crash 0, " + page + "crash 0", 4, false}, {all + "save 0, crash 0", 5, true}, {page + page + "save 0, " + page + "crash 0", 4, false},
		{all + "save 0, crash 0, crash 0", 5, true}, {page + "save 0, crash 0, save 0, " + page + "crash 0, save 0, crash 0", 2, false},
		{page + "crash 0, save 0, " + page + "crash 0", 0, false}, {"save 0, " + page + "crash 0", 0, false},
		// Saves and crashes of others.
		{page + "crash 1", 2, false}, {page + "save 1, crash 0", 0, false}, {page + "save 0, " + page + "crash 1", 4, false}, {all + "crash 1, save 1", 5, true},
		// With packets on the wire: those that were asked before come in just if they suit.
		{"ask 0, crash 0, 2*deliver 0", 2, false}, {"ask 0, deliver 0, crash 0, deliver 0", 2, false}, {"ask 0, deliver 0, copy 0, crash 0, deliver 0", 2, false},
		{page + "ask 0, crash 0, 2*deliver 0", 0, false}, {page + "ask 0, deliver 0, crash 0, deliver 0", 0, false},
		{page + "ask 0, deliver 0, crash 0, copy 0, ask 0, deliver 1, deliver 1, deliver 0", 4, false},
		{page + "save 0, ask 0, deliver 0, copy 0, crash 0, deliver 0", 4, false}, {page + "save 0, ask 0, crash 0, 2*deliver 0", 4, false},
		{page + page + "ask 0, deliver 0, copy 0, crash 0, deliver 0", 0, false}, {page + page + "save 0, ask 0, deliver 0, copy 0, crash 0, deliver 0", 5, true},
		{page + page + "save 0, ask 0, deliver 0, copy 0, crash 0", 4, false}, {page + page + "save 0, ask 0, deliver 0, copy 0, save 0, crash 0, deliver 0", 5, true},
	} {
		isKnown(t, s, c.text, c.count, c.done)
	}
	none := ofAllWords(1, 2, "!y=y")
	isKnown(t, none, "ask 0, deliver 0, copy 0, crash 0", 0, false)
	isKnown(t, none, "ask 0, deliver 0, copy 0, crash 0, deliver 0", 0, true)
	isKnown(t, none, "ask 0, deliver 0, copy 0, save 0, crash 0", 0, true)
}

// What is saved stays as it was when it was saved.
func TestWhatIsKeptOverACrash(t *testing.T) {
	s := ofCount(40, 3)
	page := "ask 0, 2*deliver 0, "
	for before := range 5 {
		for behind := range 5 {
			text := strings.Repeat(page, before) + "save 0, " + strings.Repeat(page, behind)
			desk, _, _ := impl.DeskAfter(s.shop, deedsOf(text))
			saved, known := s.answers(0)[:3*before], s.answers(0)[:3*(before+behind)]
			equal(t, "saved", plainTuples(desk.Saved[0].Known), plainTuples(saved))
			equal(t, "known", plainTuples(desk.Readers[0].Known), plainTuples(known))
			isKnown(t, s, text+"crash 0", 3*before, false)
			isKnown(t, s, text+"crash 0, "+page+page, 3*before+6, false)
			isKnown(t, s, text+"crash 0, "+page+"crash 0", 3*before, false)
		}
	}
}

func TestPacketsOnTheWire(t *testing.T) {
	s := ofAllWords(1, 2, "x=x", "R0(xy)", "!y=y")
	isOnWire := func(text string, want ...impl.Packet) {
		t.Helper()
		desk, _, code := impl.DeskAfter(s.shop, deedsOf(text))
		equal(t, text, []any{plainDesk(desk).Wire, code}, []any{want, int64(impl.OK)})
	}
	first := [][]string{{"", ""}, {"a", "a"}}
	isOnWire("ask 1", impl.Packet{Query: 1})
	isOnWire("ask 1, deliver 0", impl.Packet{Back: true, Query: 1, Page: first})
	isOnWire("ask 1, copy 0", impl.Packet{Query: 1}, impl.Packet{Back: true, Query: 1, Page: first})
	isOnWire("ask 1, deliver 0, copy 0", impl.Packet{Back: true, Query: 1, Page: first})
	isOnWire("ask 1, 2*deliver 0, ask 1", impl.Packet{Query: 1, Behind: 2, Last: []string{"a", "a"}})
	isOnWire("ask 1, 2*deliver 0, ask 1, deliver 0", impl.Packet{Back: true, Query: 1, Behind: 2, Last: []string{"a", "a"}, Page: [][]string{{"", "a"}, {"b", "b"}}})
	isOnWire("ask 1, 2*deliver 0, ask 1, 2*deliver 0, ask 1, deliver 0", impl.Packet{Back: true, Query: 1, Behind: 4, Last: []string{"b", "b"}, Page: [][]string{{"", "b"}}, End: true})
	isOnWire("ask 2, deliver 0", impl.Packet{Back: true, Query: 2, End: true})
	isOnWire("ask 2, ask 0, ask 1, deliver 1", impl.Packet{Query: 2}, impl.Packet{Query: 1}, impl.Packet{Back: true, Page: [][]string{{""}, {"a"}}})
	isOnWire("ask 2, ask 0, ask 1, drop 1", impl.Packet{Query: 2}, impl.Packet{Query: 1})
	isOnWire("ask 0, 2*deliver 0, ask 0, crash 0, ask 0, drop 9", impl.Packet{Behind: 2, Last: []string{"a"}}, impl.Packet{})
	isOnWire("ask 0, 2*deliver 0, ask 0, crash 0, deliver 0", impl.Packet{Back: true, Behind: 2, Last: []string{"a"}, Page: [][]string{{"b"}}, End: true})
}

// Errors of the functions that are given deeds, in their order.
func deskCodes(v impl.Shop, deeds []impl.Deed, query int64) []int64 {
	_, _, one := impl.DeskAfter(v, deeds)
	_, _, two := impl.RefusedDeed(v, deeds)
	_, _, three := impl.KnownAt(v, deeds, query)
	_, four := impl.FinishDeeds(v, deeds)
	return []int64{one, two, three, four}
}

func wrongDeeds() []impl.Deed {
	return []impl.Deed{{}, {Kind: -1}, {Kind: 7}, {Kind: 0, A: 5}, {Kind: 1, A: -1}, {Kind: 6, A: 1000}, {Kind: 2, A: math.MaxInt64}, {Kind: math.MinInt64, A: math.MinInt64}}
}

func TestErrorsOfDeeds(t *testing.T) {
	v := ofAllWords(1, 2, "R0(xy)", "x=x").shop
	for _, bad := range badShops() {
		for _, deeds := range [][]impl.Deed{nil, deedsOf("ask 0"), deedsOf("401*ask 0")} {
			equal(t, "shop", deskCodes(bad, deeds, 7), slices.Repeat([]int64{impl.ErrInvalid}, 4))
		}
	}
	for _, wrong := range wrongDeeds() {
		for _, deeds := range [][]impl.Deed{{wrong}, append(deedsOf("400*ask 0"), wrong), append(deedsOf("900*ask 0"), wrong), append([]impl.Deed{wrong}, deedsOf("399*save 9")...)} {
			equal(t, "deed", deskCodes(v, deeds, 0), slices.Repeat([]int64{impl.ErrInvalid}, 4))
			equal(t, "deed", deskCodes(v, deeds, 9), slices.Repeat([]int64{impl.ErrInvalid}, 4))
		}
	}
	for _, text := range []string{"401*ask 0", "401*save 9", "1000*deliver 0"} {
		equal(t, text, deskCodes(v, deedsOf(text), 0), slices.Repeat([]int64{impl.ErrRange}, 4))
	}
	for _, query := range []int64{-1, 2, 4, math.MinInt64, math.MaxInt64} {
		equal(t, "query", deskCodes(v, nil, query), []int64{impl.OK, impl.ErrNotFound, impl.ErrRange, impl.OK})
		equal(t, "query", deskCodes(v, deedsOf("400*ask 5"), query), []int64{impl.OK, impl.OK, impl.ErrRange, impl.ErrLimit})
	}
	equal(t, "400 deeds", deskCodes(v, deedsOf("400*save 0"), 1), []int64{impl.OK, impl.ErrNotFound, impl.OK, impl.ErrLimit})
}

func TestLimitsOfDeeds(t *testing.T) {
	s := ofAllWords(1, 2, "R0(xy)", "x=x")
	for _, text := range []string{"400*save 1", "400*crash 9", "ask 0, 399*copy 0", "399*drop 3, ask 1", "388*save 0, 12*ask 0"} {
		isDeskAs(t, s, deedsOf(text))
	}
	desk, count, _ := impl.DeskAfter(s.shop, deedsOf("394*crash 9, ask 0, 2*deliver 0, ask 0, 2*deliver 0"))
	equal(t, "behind 394 deeds", []int64{int64(len(desk.Readers[0].Known)), count}, []int64{4, 6})
	at, code, _ := impl.RefusedDeed(s.shop, deedsOf("399*save 0, save 2"))
	equal(t, "the last deed", []int64{at, code}, []int64{399, impl.ErrRange})
}

// isPlan reads the plan behind some deeds, which are no more than MaxDeeds with it.
func isPlan(t *testing.T, s store, text, want string) {
	t.Helper()
	plan, code := impl.FinishDeeds(s.shop, deedsOf(text))
	equal(t, "plan behind "+text, []any{plan, code}, []any{deedsOf(want), int64(impl.OK)})
	isDeskAs(t, s, deedsOf(text))
	allAreKnownInTheEnd(t, s, deedsOf(text))
}

func TestFinishDeeds(t *testing.T) {
	s := ofAllWords(1, 2, "R0(xy)", "x=x", "!y=y")
	one, two, three := "ask 0, 2*deliver 0, ", "ask 1, 2*deliver 0, ", "ask 2, 2*deliver 0, "
	saves := "save 0, save 1, save 2"
	isPlan(t, s, "", one+one+one+two+two+three+saves)
	isPlan(t, s, "ask 0, ask 1, deliver 1", "2*drop 0, "+one+one+one+two+two+three+saves)
	isPlan(t, s, one, one+one+two+two+three+saves)
	isPlan(t, s, one+one+one, two+two+three+saves)
	isPlan(t, s, two+three+two, one+one+one+saves)
	isPlan(t, s, three+one+one+one+two+two, saves)
	isPlan(t, s, three+one+one+one+two+two+saves, saves)
	isPlan(t, s, three+"12*ask 1"+","+"12*copy 0", "12*drop 0, "+one+one+one+two+two+saves)
	isPlan(t, s, one+one+"ask 0, deliver 0, copy 0, ask 1, ask 2", "3*drop 0, "+two+two+three+saves)
	isPlan(t, s, one+"save 0, "+one+one+"crash 0, ask 7, deliver 9", one+one+two+two+three+saves)
	isPlan(t, s, one+"ask 0, crash 0, ask 0", "2*drop 0, "+one+one+one+two+two+three+saves)
}

// With those before there may be just MaxDeeds.
func TestLimitsOfPlans(t *testing.T) {
	isLimit := func(s store, text string, want int64) {
		t.Helper()
		_, code := impl.FinishDeeds(s.shop, deedsOf(text))
		equal(t, text, code, want)
		isDeskAs(t, s, deedsOf(text))
	}
	// 133 pages, and a save.
	full, most := ofCount(133, 1), ofCount(134, 1)
	isLimit(full, "", impl.OK)
	isLimit(full, "save 0", impl.ErrLimit)
	isLimit(full, "deliver 0", impl.ErrLimit)
	isLimit(full, "ask 0, 2*deliver 0", impl.OK)
	isLimit(full, "ask 0, 2*deliver 0, crash 0", impl.ErrLimit)
	isLimit(full, "ask 0", impl.ErrLimit)
	isLimit(most, "", impl.ErrLimit)
	isLimit(most, "ask 0, 2*deliver 0", impl.ErrLimit)
	isLimit(ofCount(300, 1), "", impl.ErrLimit)
	isLimit(ofCount(300, 2), "", impl.ErrLimit)
	isLimit(ofCount(300, 3), "", impl.OK)
	few := ofAllWords(1, 5, "R0(xy)")
	isLimit(few, "396*save 0", impl.OK)
	isLimit(few, "397*save 0", impl.ErrLimit)
	isLimit(few, "396*crash 8", impl.OK)
	isLimit(few, "397*crash 8", impl.ErrLimit)
	isLimit(few, "ask 0, 2*deliver 0, 396*save 0", impl.OK)
	isLimit(few, "ask 0, 2*deliver 0, 397*save 0", impl.ErrLimit)
	isLimit(few, "394*save 0, 2*ask 0", impl.ErrLimit)
	isLimit(few, "392*save 0, 2*ask 0", impl.OK)
	isLimit(few, "393*save 0, 2*ask 0", impl.ErrLimit)
}
