package tests

import (
	"math"
	"reflect"
	"slices"
	"strconv"
	"strings"
	"testing"

	"loop.example/g01168/impl"
)

// Promise 1 for the functions of chapter 8.

// callsOfChapter8 calls every function but ReadDeed; the code is the last result.
func callsOfChapter8(v impl.Shop, deeds []impl.Deed, query int64, last []string, text string) []call {
	var calls []call
	add := func(name string, results ...any) { calls = append(calls, call{name, results}) }
	add("ValidShop", impl.ValidShop(v), int64(impl.OK))
	answers, code := impl.AnswersOfShop(v, query)
	add("AnswersOfShop", answers, code)
	page, end, code := impl.PageBehind(v, query, last)
	add("PageBehind", page, end, code)
	for _, d := range deeds[:min(len(deeds), 20)] {
		add("ValidDeed", impl.ValidDeed(d), int64(impl.OK))
		add("DeedText", impl.DeedText(d), int64(impl.OK))
	}
	desk, count, code := impl.DeskAfter(v, deeds)
	add("DeskAfter", desk, count, code)
	at, refusal, code := impl.RefusedDeed(v, deeds)
	add("RefusedDeed", at, refusal, code)
	known, done, code := impl.KnownAt(v, deeds, query)
	add("KnownAt", known, done, code)
	plan, code := impl.FinishDeeds(v, deeds)
	add("FinishDeeds", plan, code)
	answered, code := impl.RunScript(v, text)
	add("RunScript", answered, code)
	return calls
}

func codeAtEnd(c call) int64 { return c.results[len(c.results)-1].(int64) }

func copyOfShop(v impl.Shop) impl.Shop {
	p := impl.Presentation{Domain: copyOf(v.Presentation.Domain)}
	for _, r := range v.Presentation.Relations {
		p.Relations = append(p.Relations, copyOf(r))
	}
	return impl.Shop{Presentation: p, Queries: slices.Clone(v.Queries), Length: v.Length, Page: v.Page}
}

func roomyShop(v impl.Shop) impl.Shop {
	roomy := copyOfShop(v)
	roomy.Presentation.Domain = roomyRelation(v.Presentation.Domain)
	for i, r := range roomy.Presentation.Relations {
		roomy.Presentation.Relations[i] = roomyRelation(r)
	}
	roomy.Presentation.Relations = withRoom(roomy.Presentation.Relations, impl.Relation{Tapes: 77})
	roomy.Queries = withRoom(roomy.Queries, "unused", "room")
	return roomy
}

// everythingOfShop copies a shop with all unused capacity.
func everythingOfShop(v impl.Shop) []any {
	list := []any{v.Length, v.Page, roomOf(v.Queries), everythingIn(v.Presentation.Domain)}
	for _, r := range v.Presentation.Relations[:cap(v.Presentation.Relations)] {
		list = append(list, everythingIn(r))
	}
	return list
}

func promisedShops() []impl.Shop {
	var list []impl.Shop
	for _, s := range someStores() {
		list = append(list, s.shop)
	}
	return append(list, badShops()...)
}

func TestShopsAreNotModified(t *testing.T) {
	d := dice(863)
	for i, v := range promisedShops() {
		roomy := roomyShop(v)
		list := randomDeeds(&d, 60)
		deeds := withRoom(list, impl.Deed{Kind: 77, A: 78}, impl.Deed{Kind: 79})
		last := withRoom([]string{"a", "b"}, "unused", "room")
		seen := func() []any { return append(everythingOfShop(roomy), roomOf(deeds), roomOf(last)) }
		before := seen()
		script := strings.Join(deedTexts(list), "\n")
		calls := callsOfChapter8(roomy, deeds, int64(i%3), last, script)
		equal(t, "arguments", seen(), before)
		again := callsOfChapter8(copyOfShop(v), slices.Clone(list), int64(i%3), []string{"a", "b"}, script)
		if !reflect.DeepEqual(again, calls) {
			t.Fatalf("%v and then %v", calls, again)
		}
	}
}

func TestEmptyListsOfShops(t *testing.T) {
	one := ofWords([]string{"", "a"}, 2, 1, "x=x").shop
	one.Presentation.Relations = nil
	two := copyOfShop(one)
	two.Presentation.Relations = []impl.Relation{}
	equal(t, "nil and empty", callsOfChapter8(one, nil, 0, nil, ""), callsOfChapter8(two, []impl.Deed{}, 0, []string{}, ""))
	none := impl.Shop{Queries: []string{}}
	equal(t, "nil and empty", callsOfChapter8(none, nil, 0, nil, ""), callsOfChapter8(impl.Shop{}, []impl.Deed{}, 0, []string{}, ""))
}

// tupleLists are all lists of tuples in a result, each with its unused capacity.
func tupleLists(result any) [][][]string {
	var list [][][]string
	add := func(tuples [][]string) { list = append(list, tuples[:cap(tuples)]) }
	switch made := result.(type) {
	case [][]string:
		add(made)
	case impl.Desk:
		for _, reader := range slices.Concat(made.Readers, made.Saved) {
			add(reader.Known)
		}
		for _, p := range made.Wire {
			add(p.Page)
			add([][]string{p.Last})
		}
	}
	return list
}

// isApart writes another text into each place of each tuple: if two of them share
// memory, the later one is found in both.
func isApart(t *testing.T, name string, result any) {
	t.Helper()
	lists := tupleLists(result)
	marks := func(visit func(place *string, mark string)) {
		for i, list := range lists {
			for j, words := range list {
				words = words[:cap(words)]
				for k := range words {
					visit(&words[k], strings.Join([]string{strconv.Itoa(i), strconv.Itoa(j), strconv.Itoa(k)}, "/"))
				}
			}
		}
	}
	marks(func(place *string, mark string) { *place = mark })
	marks(func(place *string, mark string) { equal(t, name+": tuples share memory", *place, mark) })
	for i, list := range lists {
		for j := range list {
			list[j] = []string{strconv.Itoa(i), strconv.Itoa(j)}
		}
	}
	for i, list := range lists {
		for j := range list {
			equal(t, name+": lists share memory", list[j], []string{strconv.Itoa(i), strconv.Itoa(j)})
		}
	}
}

// spoilResult overwrites all that can be reached from a result.
func spoilResult(result any) {
	switch made := result.(type) {
	case impl.Desk:
		readers, saved, wire := made.Readers[:cap(made.Readers)], made.Saved[:cap(made.Saved)], made.Wire[:cap(made.Wire)]
		for i := range readers {
			readers[i] = impl.Reader{Known: [][]string{{"spoiled"}}, Done: true}
		}
		for i := range saved {
			saved[i] = impl.Reader{Known: [][]string{{"saved"}}}
		}
		for i := range wire {
			wire[i] = impl.Packet{Query: 77}
		}
	case []impl.Deed:
		for i := range made[:cap(made)] {
			made[:cap(made)][i] = impl.Deed{Kind: 77, A: 78}
		}
	}
}

func TestResultsOfChapter8ShareNoMemory(t *testing.T) {
	d := dice(877)
	crashes := deedsOf("ask 0, 2*deliver 0, save 0, ask 0, deliver 0, copy 0, copy 0, crash 0, ask 0, copy 0, copy 0, save 0, crash 0, copy 0")
	for _, s := range someStores() {
		for _, deeds := range [][]impl.Deed{nil, crashes, slices.Concat(crashes, crashes), randomDeeds(&d, 50), randomDeeds(&d, 90)} {
			v, kept := copyOfShop(s.shop), copyOfShop(s.shop)
			list := slices.Clone(deeds)
			calls := func() []call { return callsOfChapter8(v, list, 0, nil, strings.Join(deedTexts(deeds), "\n")) }
			first, second := calls(), calls()
			for i, c := range first {
				isApart(t, c.name, c.results[0])
				spoilResult(c.results[0])
				equal(t, c.name+": another result", first[i+1:], second[i+1:])
			}
			equal(t, "arguments", []any{v, list}, []any{kept, slices.Clone(deeds)})
			equal(t, "later results", calls(), second)
		}
	}
}

// Readers and what has been saved of them are apart, also just behind a save.
func TestReadersAndWhatIsSavedAreApart(t *testing.T) {
	s := ofAllWords(1, 2, "R0(xy)")
	desk, _, _ := impl.DeskAfter(s.shop, deedsOf("ask 0, deliver 0, copy 0, save 0"))
	desk.Readers[0].Known[0][0] = "spoiled"
	desk.Readers[0].Known[1] = nil
	want := [][]string{{"", ""}, {"a", "a"}}
	equal(t, "saved", desk.Saved[0].Known, want)
	equal(t, "on the wire", desk.Wire[0].Page, want)
	_ = append(desk.Saved, impl.Reader{})
	desk.Saved[0].Done = true
	equal(t, "reader", desk.Readers[0].Done, false)
}

func isEmptyResult(result any) bool {
	if desk, isDesk := result.(impl.Desk); isDesk {
		return len(desk.Readers)+len(desk.Saved)+len(desk.Wire) == 0
	}
	return isZero(result)
}

// Whatever the arguments are, results with an error are empty.
func TestResultsOfChapter8WithErrorsAreZero(t *testing.T) {
	d := dice(881)
	queries := []int64{0, 1, -1, 4, math.MaxInt64, math.MinInt64}
	lasts := [][]string{nil, {"a"}, {"a", "b"}, {"a", "b", ""}, {"c", "a"}}
	seen := map[int64]int{}
	for i, v := range promisedShops() {
		for _, deeds := range [][]impl.Deed{nil, randomDeeds(&d, 40), randomDeeds(&d, 400), randomDeeds(&d, 401), wrongDeeds()} {
			for _, c := range callsOfChapter8(v, deeds, queries[i%len(queries)], lasts[i%len(lasts)], strings.Repeat("ask 0\n", int(d.below(140)))) {
				code := codeAtEnd(c)
				seen[code]++
				for _, result := range c.results[:len(c.results)-1] {
					if code != impl.OK && !isEmptyResult(result) {
						t.Errorf("%s returns %v", c.name, c.results)
					}
				}
			}
		}
	}
	for _, code := range []int64{impl.OK, impl.ErrInvalid, impl.ErrRange, impl.ErrLimit, impl.ErrSyntax, impl.ErrNotFound} {
		equal(t, "this code is returned", seen[code] > 0, true)
	}
}

func TestLargeArgumentsOfChapter8(t *testing.T) {
	const many = 1000000
	v := ofAllWords(1, 2, "R0(xy)").shop
	for _, f := range []string{"x", "!", "(", "Ex", "x=x", "R0(xy)&", "\n"} {
		large := copyOfShop(v)
		large.Queries = []string{strings.Repeat(f, many/len(f))}
		equal(t, "a long text", impl.ValidShop(large), false)
		large.Queries = slices.Repeat([]string{"x=x"}, many)
		equal(t, "many queries", impl.ValidShop(large), false)
	}
	large := copyOfShop(v)
	large.Presentation.Relations = make([]impl.Relation, many/4)
	equal(t, "many relations", impl.ValidShop(large), false)
	large.Presentation = impl.Presentation{Domain: impl.Relation{Tapes: 1, Accept: make([]bool, many/3), Next: slices.Repeat([][]int64{{0, 0}}, many/3)}}
	equal(t, "a large domain", impl.ValidShop(large), false)
	words := slices.Repeat([]string{"a"}, many)
	texts := []string{strings.Repeat("a", many), strings.Repeat("\n", many), strings.Repeat(" ", many), strings.Repeat("ask 0\n", many/6)}
	for _, text := range texts {
		_, code := impl.ReadDeed(text)
		equal(t, "ReadDeed", code, int64(impl.ErrSyntax))
		isPage(t, v, 0, []string{text, "a"}, nil, false, impl.ErrSyntax)
		for _, c := range callsOfChapter8(v, slices.Repeat([]impl.Deed{{Kind: impl.DdAsk}}, many/2), 0, words, text) {
			switch c.name {
			case "DeskAfter", "RefusedDeed", "KnownAt", "FinishDeeds", "RunScript":
				equal(t, c.name, codeAtEnd(c), int64(impl.ErrRange))
			case "PageBehind":
				equal(t, c.name, codeAtEnd(c), int64(impl.ErrSyntax))
			}
		}
		for _, c := range callsOfChapter8(v, make([]impl.Deed, many/2), 0, nil, text) {
			switch c.name {
			case "DeskAfter", "RefusedDeed", "KnownAt", "FinishDeeds":
				equal(t, c.name, codeAtEnd(c), int64(impl.ErrInvalid))
			}
		}
	}
}

// Shops with presentations and queries of all kinds are valid just if their answers
// can be listed.
func TestShopsOfAllKinds(t *testing.T) {
	d := dice(883)
	counts := map[bool]int{}
	relations := slices.DeleteFunc(someRelations(), func(r impl.Relation) bool { return len(r.Next) > 20 })
	domains := slices.DeleteFunc(slices.Clone(relations), func(r impl.Relation) bool { return r.Tapes != 1 })
	for range 400 {
		p := impl.Presentation{Domain: domains[d.below(int64(len(domains)))]}
		var tapes []int64
		for range 1 + d.below(2) {
			r := relations[d.below(int64(len(relations)))]
			p.Relations, tapes = append(p.Relations, r), append(tapes, r.Tapes)
		}
		v := impl.Shop{Presentation: p, Length: d.below(4), Page: 1 + d.below(20)}
		valid := true
		for range 1 + d.below(3) {
			f := randomNode(&d, d.below(3), tapes).text()
			_, code := impl.AnswersUpTo(p, f, v.Length)
			v.Queries, valid = append(v.Queries, f), valid && code == impl.OK
		}
		isShop(t, v, valid)
		counts[valid]++
		for i, f := range v.Queries {
			if valid {
				answers, _ := impl.AnswersUpTo(p, f, v.Length)
				isAnswersOf(t, v, int64(i), answers, impl.OK)
				isPagedThrough(t, v, int64(i), answers)
			} else {
				isAnswersOf(t, v, int64(i), nil, impl.ErrInvalid)
			}
		}
	}
	equal(t, "shops of both kinds", counts[true] > 60 && counts[false] > 60, true)
}
