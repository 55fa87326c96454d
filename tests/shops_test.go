package tests

import (
	"slices"
	"strconv"
	"strings"

	"loop.example/g01168/impl"
)

// query is a formula, and the elements for which it holds by what the tests know of
// a store.
type query struct {
	text  string
	tapes int
	holds func(s store, words []string) bool
}

// store is a shop with IsPrefixRelation and OrderRelation, and what the tests know of
// it: its elements with at most Length letters, and whether there are infinitely many.
type store struct {
	shop     impl.Shop
	elements []string
	infinite bool
	queries  []query
}

func isPrefix(words []string) bool { return strings.HasPrefix(words[1], words[0]) }

func isBefore(u, w string) bool {
	return len(u) < len(w) || len(u) == len(w) && u < w
}

func knownQueries() map[string]query {
	queries := map[string]query{}
	add := func(text string, tapes int, holds func(s store, words []string) bool) {
		queries[text] = query{text, tapes, holds}
	}
	add("x=x", 1, func(store, []string) bool { return true })
	add("!y=y", 1, func(store, []string) bool { return false })
	add("x=y", 2, func(_ store, words []string) bool { return words[0] == words[1] })
	add("R0(xy)", 2, func(_ store, words []string) bool { return isPrefix(words) })
	add("R0(zx)", 2, func(_ store, words []string) bool { return strings.HasPrefix(words[0], words[1]) })
	add("!R0(xy)", 2, func(_ store, words []string) bool { return !isPrefix(words) })
	add("R1(yz)", 2, func(_ store, words []string) bool { return isBefore(words[0], words[1]) })
	add("(R0(xy)&R0(yz))", 3, func(_ store, words []string) bool { return isPrefix(words) && isPrefix(words[1:]) })
	add("(R0(xy)&!x=y)", 2, func(_ store, words []string) bool { return isPrefix(words) && words[0] != words[1] })
	add("Ey(R0(yx)&!x=y)", 1, func(s store, words []string) bool {
		return slices.ContainsFunc(s.elements, func(w string) bool { return w != words[0] && strings.HasPrefix(words[0], w) })
	})
	add("AyR0(xy)", 1, func(s store, words []string) bool {
		return !slices.ContainsFunc(s.elements, func(w string) bool { return !strings.HasPrefix(w, words[0]) })
	})
	add("MyR1(xy)", 1, func(s store, _ []string) bool { return s.infinite })
	return queries
}

// newStore makes a store; the elements are given with all letters that they have.
func newStore(domain impl.Relation, elements []string, infinite bool, length, page int64, texts ...string) store {
	s := store{infinite: infinite}
	p := impl.Presentation{Domain: domain, Relations: []impl.Relation{impl.IsPrefixRelation(), impl.OrderRelation()}}
	s.shop = impl.Shop{Presentation: p, Queries: texts, Length: length, Page: page}
	for _, w := range elements {
		if int64(len(w)) <= length {
			s.elements = append(s.elements, w)
		}
	}
	for _, text := range texts {
		s.queries = append(s.queries, knownQueries()[text])
	}
	return s
}

// ofAllWords is a store of all words.
func ofAllWords(length, page int64, texts ...string) store {
	return newStore(everything(1), wordsUpTo(int(length)), true, length, page, texts...)
}

// ofWords is a store of some words.
func ofWords(words []string, length, page int64, texts ...string) store {
	var tuples [][]string
	for _, w := range words {
		tuples = append(tuples, []string{w})
	}
	domain, _ := impl.RelationOf(1, tuples)
	return newStore(domain, words, false, length, page, texts...)
}

// ofCount is a store of the first words, as many as are told, all of which answer its
// only query.
func ofCount(count int, page int64) store {
	domain := nothing(1)
	if count > 0 {
		domain = firstWords(int64(count))
	}
	return newStore(domain, wordsUpTo(9)[:count], false, 9, page, "x=x")
}

func withEvenA(words []string) []string {
	return slices.DeleteFunc(words, func(w string) bool { return strings.Count(w, "a")%2 == 1 })
}

func someStores() []store {
	few := []string{"", "a", "b", "ab", "bba", "bbab"}
	return []store{
		ofAllWords(1, 2, "R0(xy)"),
		ofAllWords(0, 1, "R0(xy)", "x=x", "!y=y", "!R0(xy)"),
		ofAllWords(3, 7, "R0(zx)", "R1(yz)", "Ey(R0(yx)&!x=y)", "MyR1(xy)"),
		ofAllWords(3, 20, "R0(xy)", "R0(xy)", "!R0(xy)", "x=y"),
		ofAllWords(2, 5, "(R0(xy)&R0(yz))", "AyR0(xy)"),
		newStore(evenA(), withEvenA(wordsUpTo(4)), true, 4, 3, "x=x", "(R0(xy)&!x=y)", "R1(yz)", "AyR0(xy)"),
		ofWords(few, impl.MaxLength, 4, "R0(xy)", "x=x", "(R0(xy)&R0(yz))", "MyR1(xy)"),
		ofWords(few, 3, 1, "x=x", "R1(yz)", "Ey(R0(yx)&!x=y)", "!R0(xy)"),
		ofWords(few, 0, 2, "x=x", "(R0(xy)&R0(yz))"),
		ofWords(nil, 2, 3, "x=x", "!y=y", "(R0(xy)&R0(yz))"),
		ofWords([]string{"ab"}, 1, 1, "x=x"),
		ofWords([]string{""}, 5, 1, "x=x", "R0(xy)"),
	}
}

// answers returns all answers to a query, in order.
func (s store) answers(query int) [][]string {
	q := s.queries[query]
	tuples := [][]string{nil}
	for range q.tapes {
		var longer [][]string
		for _, words := range tuples {
			for _, w := range s.elements {
				longer = append(longer, append(slices.Clone(words), w))
			}
		}
		tuples = longer
	}
	tuples = slices.DeleteFunc(tuples, func(words []string) bool { return !q.holds(s, words) })
	slices.SortFunc(tuples, inOrder)
	return tuples
}

// pageBehind returns the answers behind a tuple, and whether these are all.
func (s store) pageBehind(query int, last []string) ([][]string, bool) {
	var later [][]string
	for _, words := range s.answers(query) {
		if len(last) == 0 || inOrder(words, last) > 0 {
			later = append(later, words)
		}
	}
	count := min(len(later), int(s.shop.Page))
	return later[:count], count == len(later)
}

// knowing tells how many answers a reader knows.
type knowing struct {
	count int
	done  bool
}

// sent is a packet: how many answers its reader knew.
type sent struct {
	back   bool
	query  int64
	behind int
}

// counter is a desk that counts answers only.
type counter struct {
	answers        [][][]string
	page           int
	readers, saved []knowing
	wire           []sent
}

func newCounter(s store) *counter {
	n := &counter{page: int(s.shop.Page)}
	for i := range s.queries {
		n.answers = append(n.answers, s.answers(i))
	}
	n.readers = make([]knowing, len(n.answers))
	n.saved = make([]knowing, len(n.answers))
	return n
}

// behind tells what is known with one page more.
func (n *counter) behind(query int64, count int) knowing {
	all := len(n.answers[query])
	return knowing{min(count+n.page, all), count+n.page >= all}
}

func (n *counter) comesIn(p sent) {
	reader := &n.readers[p.query]
	if !p.back {
		n.wire = append(n.wire, sent{true, p.query, p.behind})
	} else if !reader.done && reader.count == p.behind {
		*reader = n.behind(p.query, p.behind)
	}
}

func (n *counter) do(d impl.Deed) int64 {
	onWire := d.Kind == impl.DdDeliver || d.Kind == impl.DdCopy || d.Kind == impl.DdDrop
	if onWire && d.A >= int64(len(n.wire)) || !onWire && d.A >= int64(len(n.readers)) {
		return impl.ErrRange
	}
	isFull := len(n.wire) == impl.MaxWire
	switch d.Kind {
	case impl.DdAsk:
		if n.readers[d.A].done {
			return impl.ErrState
		}
		if isFull {
			return impl.ErrLimit
		}
		n.wire = append(n.wire, sent{false, d.A, n.readers[d.A].count})
	case impl.DdCopy:
		if !n.wire[d.A].back && isFull {
			return impl.ErrLimit
		}
		n.comesIn(n.wire[d.A])
	case impl.DdDeliver, impl.DdDrop:
		p := n.wire[d.A]
		n.wire = append(slices.Clone(n.wire[:d.A]), n.wire[d.A+1:]...)
		if d.Kind == impl.DdDeliver {
			n.comesIn(p)
		}
	case impl.DdSave:
		n.saved[d.A] = n.readers[d.A]
	case impl.DdCrash:
		n.readers[d.A] = n.saved[d.A]
	}
	return impl.OK
}

func (n *counter) doAll(deeds []impl.Deed) []int64 {
	var codes []int64
	for _, d := range deeds {
		codes = append(codes, n.do(d))
	}
	return codes
}

// finish returns the deeds that the document plans.
func (n *counter) finish() []impl.Deed {
	var plan []impl.Deed
	for range n.wire {
		plan = append(plan, impl.Deed{Kind: impl.DdDrop})
	}
	for a := range n.readers {
		for reader := n.readers[a]; !reader.done; reader = n.behind(int64(a), reader.count) {
			plan = append(plan, impl.Deed{Kind: impl.DdAsk, A: int64(a)}, impl.Deed{Kind: impl.DdDeliver}, impl.Deed{Kind: impl.DdDeliver})
		}
	}
	for a := range n.readers {
		plan = append(plan, impl.Deed{Kind: impl.DdSave, A: int64(a)})
	}
	return plan
}

func (n *counter) readersOf(list []knowing) []impl.Reader {
	var readers []impl.Reader
	for i, reader := range list {
		readers = append(readers, impl.Reader{Known: n.answers[i][:reader.count], Done: reader.done})
	}
	return readers
}

func (n *counter) desk() impl.Desk {
	desk := impl.Desk{Readers: n.readersOf(n.readers), Saved: n.readersOf(n.saved)}
	for _, p := range n.wire {
		packet := impl.Packet{Back: p.back, Query: p.query, Behind: int64(p.behind)}
		answers := n.answers[p.query]
		if p.behind > 0 {
			packet.Last = answers[p.behind-1]
		}
		if p.back {
			later := n.behind(p.query, p.behind)
			packet.Page, packet.End = answers[p.behind:later.count], later.done
		}
		desk.Wire = append(desk.Wire, packet)
	}
	return desk
}

// plainTuples is a copy in which lists without elements are nil.
func plainTuples(list [][]string) [][]string {
	var plain [][]string
	for _, words := range list {
		plain = append(plain, append([]string(nil), words...))
	}
	return plain
}

func plainReaders(list []impl.Reader) []impl.Reader {
	var plain []impl.Reader
	for _, reader := range list {
		plain = append(plain, impl.Reader{Known: plainTuples(reader.Known), Done: reader.Done})
	}
	return plain
}

func plainDesk(d impl.Desk) impl.Desk {
	plain := impl.Desk{Readers: plainReaders(d.Readers), Saved: plainReaders(d.Saved)}
	for _, p := range d.Wire {
		p.Last, p.Page = append([]string(nil), p.Last...), plainTuples(p.Page)
		plain.Wire = append(plain.Wire, p)
	}
	return plain
}

// nameOfKind is the word for a kind of deeds.
func nameOfKind(kind int64) string {
	return []string{"", "ask", "deliver", "copy", "drop", "save", "crash"}[kind]
}

func deedText(d impl.Deed) string { return nameOfKind(d.Kind) + " " + strconv.FormatInt(d.A, 10) }

func deedTexts(deeds []impl.Deed) []string {
	var texts []string
	for _, d := range deeds {
		texts = append(texts, deedText(d))
	}
	return texts
}

// allDeeds has all deeds that are valid by their texts.
func allDeeds() map[string]impl.Deed {
	deeds := map[string]impl.Deed{}
	for kind := int64(1); kind <= 6; kind++ {
		for a := range int64(1000) {
			d := impl.Deed{Kind: kind, A: a}
			deeds[deedText(d)] = d
		}
	}
	return deeds
}

// deedsOf reads deeds that are separated by commas; "3*ask 0" are three.
func deedsOf(text string) []impl.Deed {
	var deeds []impl.Deed
	for _, part := range strings.Split(text, ",") {
		times := 1
		if count, rest, counted := strings.Cut(part, "*"); counted {
			times, _ = strconv.Atoi(strings.TrimSpace(count))
			part = rest
		}
		name, number, _ := strings.Cut(strings.TrimSpace(part), " ")
		a, _ := strconv.ParseInt(number, 10, 64)
		for kind := int64(1); kind <= 6; kind++ {
			if nameOfKind(kind) == name {
				deeds = append(deeds, slices.Repeat([]impl.Deed{{Kind: kind, A: a}}, times)...)
			}
		}
	}
	return deeds
}

// randomDeeds are deeds that fill the wire now and then, and empty it again.
func randomDeeds(d *dice, count int64) []impl.Deed {
	var deeds []impl.Deed
	kinds := [][]int64{{1, 1, 1, 3, 3, 5}, {2, 2, 2, 4, 6}, {1, 2, 2, 3, 5, 6}, {1, 2, 3, 4, 5, 6}}
	mode := kinds[3]
	for range count {
		if d.below(8) == 0 {
			mode = kinds[d.below(4)]
		}
		a := d.below(3)
		switch d.below(8) {
		case 0:
			a = d.below(13)
		case 1:
			a = []int64{4, 12, 13, 998, 999}[d.below(5)]
		}
		deeds = append(deeds, impl.Deed{Kind: mode[d.below(int64(len(mode)))], A: a})
	}
	return deeds
}

// badShops are shops that are not valid, each for another reason.
func badShops() []impl.Shop {
	var list []impl.Shop
	change := func(f func(v *impl.Shop)) {
		v := ofAllWords(1, 2, "R0(xy)").shop
		v.Queries = slices.Clone(v.Queries)
		v.Presentation.Relations = slices.Clone(v.Presentation.Relations)
		f(&v)
		list = append(list, v)
	}
	change(func(v *impl.Shop) { *v = impl.Shop{} })
	for _, r := range wrongRelations() {
		change(func(v *impl.Shop) { v.Presentation.Domain = r })
		change(func(v *impl.Shop) { v.Presentation.Relations[0] = r })
		change(func(v *impl.Shop) { v.Presentation.Relations[1] = r })
	}
	change(func(v *impl.Shop) { v.Presentation.Domain = everything(2) })
	change(func(v *impl.Shop) {
		v.Presentation.Relations = slices.Repeat([]impl.Relation{impl.EqualWords()}, impl.MaxRelations+1)
	})
	change(func(v *impl.Shop) { v.Queries = nil })
	change(func(v *impl.Shop) { v.Queries = []string{} })
	change(func(v *impl.Shop) { v.Queries = slices.Repeat(v.Queries, impl.MaxQueries+1) })
	for _, n := range []int64{-1 << 63, -1, impl.MaxLength + 1, 1 << 62} {
		change(func(v *impl.Shop) { v.Length = n })
	}
	for _, n := range []int64{-1 << 63, -1, 0, impl.MaxPage + 1, 1 << 62} {
		change(func(v *impl.Shop) { v.Page = n })
	}
	for _, f := range []string{"", "R0(x)", "R0(xyz)", "R2(xy)", "R0(xy", "R0(xy)\n", " R0(xy)", "x", longerThanFormulas(),
		"Exx=x", "AxEyR0(xy)", "MxMyR0(xy)", "MzR0(xy)&", "Mz(R0(xy)&R0(yz))"} {
		for _, queries := range [][]string{{f}, {"R0(xy)", f}, {f, "x=x", "x=x", "x=x"}, {"x=x", "x=x", "x=x", f}} {
			change(func(v *impl.Shop) { v.Queries = queries })
		}
	}
	change(func(v *impl.Shop) { v.Length = 4; v.Queries = []string{"!R0(xy)"} })
	return append(list, ofCount(301, 2).shop)
}

// longerThanFormulas is a formula but for its length.
func longerThanFormulas() string {
	f := "x=x"
	for len(f) <= impl.MaxFormula {
		f = "(" + f + "&" + f + ")"
	}
	return f
}
