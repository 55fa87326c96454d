package tests

import (
	"slices"
	"strings"
	"testing"

	"loop.example/g01168/impl"
)

// told is what the document tells of a part of a formula: its answers, or, if it
// has no free variables, whether it holds.
type told struct {
	names   string
	answers impl.Relation
	holds   bool
}

// teller follows the rules of the document word by word, each of them by calls of
// functions of chapter 2. The first error that is returned is kept.
type teller struct {
	p    impl.Presentation
	code int64
}

func (w *teller) keep(r impl.Relation, code int64) impl.Relation {
	if w.code == impl.OK {
		w.code = code
	}
	if code != impl.OK {
		return nothing(1)
	}
	return r
}

func (w *teller) frame(count int) impl.Relation {
	frame := w.p.Domain
	for range count - 1 {
		frame = w.keep(impl.ProductOf(w.p.Domain, frame))
	}
	return frame
}

func (w *teller) tell(n node) told {
	if w.code != impl.OK {
		return told{names: n.free(), answers: nothing(1)}
	}
	switch n.kind {
	case 'R':
		return w.atom(w.p.Relations[n.number], n.names)
	case '=':
		return w.atom(impl.EqualWords(), n.names)
	case '!':
		return w.opposite(w.tell(n.parts[0]))
	case '>':
		return w.tell(with('|', not(n.parts[0]), n.parts[1]))
	case '~':
		f, g := n.parts[0], n.parts[1]
		return w.tell(with('|', with('&', f, g), with('&', not(f), not(g))))
	case '&', '|':
		return w.connected(n.kind, w.tell(n.parts[0]), w.tell(n.parts[1]))
	}
	if !n.parts[0].hasFree(n.names[0]) {
		return w.unbound(n.kind, w.tell(n.parts[0]))
	}
	if n.kind == 'A' {
		return w.tell(not(bound('E', n.names, not(n.parts[0]))))
	}
	return w.quantified(n.kind, n.names, w.tell(n.parts[0]))
}

func (w *teller) atom(r impl.Relation, names string) told {
	for i := 0; i < len(names); i++ {
		for j := len(names) - 1; j > i; j-- {
			if names[i] == names[j] {
				r = w.keep(impl.SameOn(r, int64(i), int64(j)))
				r = w.keep(impl.SomeOn(r, int64(j)))
				names = names[:j] + names[j+1:]
			}
		}
	}
	sorted := []byte(names)
	slices.Sort(sorted)
	var order []int64
	for _, name := range []byte(names) {
		order = append(order, int64(slices.Index(sorted, name)))
	}
	r = w.keep(impl.MoveTapes(r, order))
	return told{names: string(sorted), answers: w.keep(impl.BothRelations(r, w.frame(len(names))))}
}

func (w *teller) opposite(part told) told {
	if part.names == "" {
		return told{holds: !part.holds}
	}
	return told{names: part.names, answers: w.keep(impl.WithoutRelation(w.frame(len(part.names)), part.answers))}
}

func (w *teller) connected(sign byte, left, right told) told {
	if left.names == "" && right.names == "" {
		return told{holds: truth(sign, left.holds, right.holds)}
	} else if left.names == "" {
		return w.withTruth(sign, right, left.holds)
	} else if right.names == "" {
		return w.withTruth(sign, left, right.holds)
	}
	names := ""
	for _, name := range []string{"x", "y", "z"} {
		if strings.Contains(left.names+right.names, name) {
			names += name
		}
	}
	one, two := w.widened(left, names), w.widened(right, names)
	if sign == '&' {
		return told{names: names, answers: w.keep(impl.BothRelations(one, two))}
	}
	return told{names: names, answers: w.keep(impl.EitherRelation(one, two))}
}

// withTruth is (F&G) or (F|G) if F has no free variables.
func (w *teller) withTruth(sign byte, part told, holds bool) told {
	frame := func() impl.Relation { return w.keep(impl.TidyRelation(w.frame(len(part.names)))) }
	if sign == '&' && !holds {
		part.answers = w.keep(impl.WithoutRelation(frame(), frame()))
	} else if sign == '|' && holds {
		part.answers = frame()
	}
	return part
}

func (w *teller) widened(part told, names string) impl.Relation {
	r := part.answers
	for at, name := range []byte(names) {
		if strings.IndexByte(part.names, name) < 0 {
			r = w.keep(impl.AddTape(r, int64(at)))
		}
	}
	if len(part.names) == len(names) {
		return r
	}
	return w.keep(impl.BothRelations(r, w.frame(len(names))))
}

// unbound is EvF and the like if v is not free in F.
func (w *teller) unbound(letter byte, part told) told {
	some, _, many := takenAlone(w.p.Domain)
	sign, holds := byte('&'), some
	switch letter {
	case 'A':
		sign, holds = '|', !some
	case 'M':
		holds = many
	}
	if part.names == "" {
		return told{holds: truth(sign, part.holds, holds)}
	}
	return w.withTruth(sign, part, holds)
}

func (w *teller) quantified(letter byte, name string, part told) told {
	at := strings.Index(part.names, name)
	if len(part.names) == 1 {
		some, _, many := takenAlone(part.answers)
		return told{holds: letter == 'E' && some || letter == 'M' && many}
	}
	quantifier := impl.SomeOn
	if letter == 'M' {
		quantifier = impl.ManyOn
	}
	answers, code := quantifier(part.answers, int64(at))
	if letter == 'M' && len(part.names) == 3 {
		code = impl.ErrLimit
	}
	return told{names: part.names[:at] + part.names[at+1:], answers: w.keep(answers, code)}
}

// takenAlone tells whether a relation of one tape takes some word, every word, and
// infinitely many, as takenWith does for further tapes.
func takenAlone(r impl.Relation) (some, all, many bool) {
	all = true
	states := map[int64]bool{r.Start: true}
	for i := range 2 * len(r.Next) {
		one, every := accepting(r, states)
		some, all, many = some || one, all && every, many || one && i >= len(r.Next)
		next := map[int64]bool{}
		for s := range states {
			next[r.Next[s][0]], next[r.Next[s][1]] = true, true
		}
		states = next
	}
	return some, all, many
}

// smallPresentation is a presentation whose formulas have answers most of the time.
func smallPresentation(d *dice) impl.Presentation {
	few, _ := impl.RelationOf(1, [][]string{{""}, {"a"}, {"b"}, {"ab"}})
	domains := []impl.Relation{everything(1), everything(1), evenA(), few, nothing(1), padded(evenA()), circle(2), lasso(1, 1), randomRelation(d, 1, 1+d.below(3))}
	known := []impl.Relation{impl.IsPrefixRelation(), impl.OrderRelation(), impl.SuccessorRelation(), evenRing(2, 2), ring(2), evenA(), chain(1), nothing(2), everything(3), evenRing(3, 2)}
	p := impl.Presentation{Domain: domains[d.below(int64(len(domains)))]}
	for range d.below(impl.MaxRelations + 1) {
		r := known[d.below(int64(len(known)))]
		if d.below(3) == 0 {
			r = randomRelation(d, 1+d.below(3), 1+d.below(3))
		}
		p.Relations = append(p.Relations, r)
	}
	return p
}

// largePresentation is one whose formulas are ErrLimit now and then, each time for
// another reason.
func largePresentation(d *dice) impl.Presentation {
	domains := []impl.Relation{everything(1), firstWords(20), chain(20), circle(12), lasso(3, 5), circle(31), circle(32), randomRelation(d, 1, 1+d.below(9))}
	large := []impl.Relation{ring(20), ring(148), turning(2, 50), evenRing(2, 30), twice(12), lots(15), counted(2, 4, 5), branches(3, 4, 5), turning(3, 4), circle(20), lasso(2, 15), chain(30)}
	p := impl.Presentation{Domain: domains[d.below(int64(len(domains)))]}
	for range impl.MaxRelations {
		r := large[d.below(int64(len(large)))]
		if d.below(3) == 0 {
			r = randomRelation(d, 1+d.below(3), 1+d.below(9))
		}
		p.Relations = append(p.Relations, r)
	}
	return p
}

// isTold compares what is returned for a formula with what the document tells.
func isTold(t *testing.T, p impl.Presentation, n node) int64 {
	t.Helper()
	w := &teller{p: p}
	want := w.tell(n)
	answers, code := impl.AnswersTo(p, n.text())
	holds, second := impl.Decide(p, n.text())
	if want.names == "" {
		equal(t, "AnswersTo "+n.text(), code, int64(impl.ErrState))
		equal(t, "Decide "+n.text(), second, w.code)
		equal(t, "Decide "+n.text(), holds, want.holds && w.code == impl.OK)
	} else {
		equal(t, "AnswersTo "+n.text(), code, w.code)
		equal(t, "Decide "+n.text(), second, int64(impl.ErrState))
	}
	if code != impl.OK {
		equal(t, "answers with an error to "+n.text(), answers, impl.Relation{})
	} else if w.code == impl.OK {
		equal(t, "AnswersTo "+n.text(), answers, want.answers)
		equal(t, "tapes of "+n.text(), answers.Tapes, int64(len(n.free())))
		equal(t, "fault of "+n.text(), faultOf(answers), "")
	}
	return w.code
}

func TestAnswersAsTold(t *testing.T) {
	d := dice(73)
	seen := map[int64]int{}
	for i := range 3000 {
		p := smallPresentation(&d)
		if i%2 == 0 {
			p = largePresentation(&d)
		}
		n := randomNode(&d, 1+d.below(5), tapesOf(p))
		if len(n.text()) <= impl.MaxFormula {
			seen[isTold(t, p, n)]++
		}
		if t.Failed() {
			t.Fatalf("with %v", p)
		}
	}
	if seen[impl.OK] < 1000 || seen[impl.ErrLimit] < 300 {
		t.Errorf("codes %v, so the test tells little", seen)
	}
}

// Formulas hold for elements as their parts do.
func TestAnswersAsOfTheirParts(t *testing.T) {
	d := dice(79)
	seen := map[byte]int{}
	for range 1500 {
		p := smallPresentation(&d)
		n := randomNode(&d, 1+d.below(4), tapesOf(p))
		if len(n.text()) <= impl.MaxFormula && len(n.parts) > 0 && isAsItsParts(t, p, n) {
			seen[n.kind]++
		}
	}
	for _, kind := range []byte("!&|>~EAM") {
		if seen[kind] < 30 {
			t.Errorf("%q is seen %d times, so the test tells little", kind, seen[kind])
		}
	}
}

// isAsItsParts looks at all places for short elements. It tells whether the
// formula and its parts have answers.
func isAsItsParts(t *testing.T, p impl.Presentation, n node) bool {
	t.Helper()
	parts := make([]told, len(n.parts))
	for i, part := range n.parts {
		w := toldBy(p, part)
		if w == nil {
			return false
		}
		parts[i] = *w
	}
	whole := toldBy(p, n)
	if whole == nil {
		return false
	}
	var elements []string
	for _, w := range wordsUpTo(2) {
		if takes(p.Domain, []string{w}) {
			elements = append(elements, w)
		}
	}
	for _, at := range placesFor(n.free(), elements) {
		want := false
		if n.isQuantifier() {
			want = quantifiedAt(p, n, parts[0], at)
		} else if n.kind == '!' {
			want = !parts[0].at(at)
		} else {
			want = truth(n.kind, parts[0].at(at), parts[1].at(at))
		}
		if whole.at(at) != want {
			t.Fatalf("%s with %q: not %v, with %v", n.text(), at, want, p)
		}
	}
	return true
}

// toldBy is what the program tells of a formula, or nil if it tells nothing.
func toldBy(p impl.Presentation, n node) *told {
	if n.free() == "" {
		holds, code := impl.Decide(p, n.text())
		if code != impl.OK {
			return nil
		}
		return &told{holds: holds}
	}
	answers, code := impl.AnswersTo(p, n.text())
	if code != impl.OK {
		return nil
	}
	return &told{names: n.free(), answers: answers}
}

func (w told) at(at place) bool {
	if w.names == "" {
		return w.holds
	}
	return takes(w.answers, at.words(w.names))
}

// quantifiedAt tells of EvF and the like by the states that are reached with any
// word for v; words that are no elements do not matter.
func quantifiedAt(p impl.Presentation, n node, part told, at place) bool {
	some, _, many := takenAlone(p.Domain)
	tape := strings.Index(part.names, n.names)
	if tape < 0 {
		return n.kind == 'E' && some && part.at(at) || n.kind == 'A' && (!some || part.at(at)) || n.kind == 'M' && many && part.at(at)
	}
	outside := naiveOpposite(p.Domain)
	for i := range int64(len(part.names)) {
		if i != int64(tape) {
			outside = naiveAdd(outside, i)
		}
	}
	padded := naivePairs(part.answers, outside, func(p, q bool) bool { return p || q })
	var all bool
	if len(part.names) == 1 {
		some, _, many = takenAlone(part.answers)
		_, all, _ = takenAlone(padded)
	} else {
		others := at.words(strings.ReplaceAll(part.names, n.names, ""))
		some, _, many = takenWith(part.answers, int64(tape), others)
		_, all, _ = takenWith(padded, int64(tape), others)
	}
	return n.kind == 'E' && some || n.kind == 'A' && all || n.kind == 'M' && many
}

// In a structure with finitely many elements, formulas can be tried with all of them.
func TestAnswersAmongFewElements(t *testing.T) {
	d := dice(83)
	seen := map[int64]int{}
	for range 1500 {
		w := fewElements(&d)
		p := w.presentation(listed(t, w.elements))
		n := randomNode(&d, 1+d.below(5), tapesOf(p))
		if len(n.text()) > impl.MaxFormula {
			continue
		}
		if n.free() == "" {
			holds, code := impl.Decide(p, n.text())
			seen[code]++
			equal(t, "Decide "+n.text(), holds, code == impl.OK && w.holds(n, place{}))
			continue
		}
		list, code := impl.AnswersUpTo(p, n.text(), impl.MaxLength)
		seen[code]++
		if code != impl.OK {
			equal(t, "a limit", code, int64(impl.ErrLimit))
			continue
		}
		if want := w.answers(n); len(list) != len(want) || len(list) > 0 && !slices.EqualFunc(list, want, slices.Equal[[]string]) {
			t.Fatalf("answers to %s of %q: %q, but they are %q", n.text(), w.elements, list, want)
		}
		isAnsweredAt(t, p, w, n, list)
	}
	if seen[impl.OK] < 700 {
		t.Errorf("codes %v, so the test tells little", seen)
	}
}

func fewElements(d *dice) world {
	var w world
	for _, word := range wordsUpTo(2) {
		if d.below(2) == 0 && len(w.elements) < 4 {
			w.elements = append(w.elements, word)
		}
	}
	w.relations = []impl.Relation{impl.OrderRelation(), randomRelation(d, 1+d.below(3), 1+d.below(3)), randomRelation(d, 2, 2)}
	return w
}

// listed is the relation of one tape of some words.
func listed(t *testing.T, words []string) impl.Relation {
	t.Helper()
	var tuples [][]string
	for _, w := range words {
		tuples = append(tuples, []string{w})
	}
	return made(t)(impl.RelationOf(1, tuples))
}

// isAnsweredAt looks at HoldsAt and FirstAnswer.
func isAnsweredAt(t *testing.T, p impl.Presentation, w world, n node, answers [][]string) {
	t.Helper()
	first, code := impl.FirstAnswer(p, n.text())
	if len(answers) == 0 {
		equal(t, "FirstAnswer", code, int64(impl.ErrNotFound))
		equal(t, "FirstAnswer", len(first), 0)
	} else {
		equal(t, "FirstAnswer", code, int64(impl.OK))
		equal(t, "FirstAnswer", first, answers[0])
	}
	for i, at := range placesFor(n.free(), w.elements) {
		if i%5 != 0 {
			continue
		}
		yes, code := impl.HoldsAt(p, n.text(), at.words(n.free()))
		equal(t, "HoldsAt", []any{yes, code}, []any{w.holds(n, at), int64(impl.OK)})
	}
}

// A formula or its opposite holds, for each tuple of elements just one of both.
func TestFormulasAndTheirOpposites(t *testing.T) {
	d := dice(89)
	compared := 0
	for range 1500 {
		p := smallPresentation(&d)
		n := randomNode(&d, 1+d.below(4), tapesOf(p))
		if len(n.text()) >= impl.MaxFormula {
			continue
		}
		one, two := toldBy(p, n), toldBy(p, not(n))
		if one == nil || two == nil {
			continue
		}
		compared++
		if n.free() == "" {
			equal(t, "Decide "+n.text()+" and its opposite", one.holds, !two.holds)
			continue
		}
		frame := p.Domain
		for range len(n.free()) - 1 {
			frame = made(t)(impl.ProductOf(p.Domain, frame))
		}
		left := naivePairs(one.answers, two.answers, func(p, q bool) bool { return p || q })
		equal(t, "answers to "+n.text()+" or its opposite are all tuples", takeTheSame(left, frame), true)
		middle := naivePairs(one.answers, two.answers, takesBoth)
		equal(t, "no answers to "+n.text()+" and its opposite", takeTheSame(middle, nothing(frame.Tapes)), true)
	}
	if compared < 700 {
		t.Errorf("only %d have been compared", compared)
	}
}

func TestAnswersWithTheSameVariableAtSeveralPlaces(t *testing.T) {
	some, _ := impl.RelationOf(3, [][]string{{"a", "a", "a"}, {"a", "a", "b"}, {"a", "b", "a"}, {"b", "a", "a"}, {"b", "ab", ""}})
	pairs, _ := impl.RelationOf(2, [][]string{{"a", "a"}, {"a", "b"}, {"", "b"}})
	p := impl.Presentation{Domain: everything(1), Relations: []impl.Relation{some, pairs}}
	for _, c := range []struct {
		text string
		want [][]string
	}{
		{"R0(xxx)", [][]string{{"a"}}},
		{"R0(xxy)", [][]string{{"a", "a"}, {"a", "b"}}},
		{"R0(yyx)", [][]string{{"a", "a"}, {"b", "a"}}},
		{"R0(xyx)", [][]string{{"a", "a"}, {"a", "b"}}},
		{"R0(yzz)", [][]string{{"a", "a"}, {"b", "a"}}},
		{"R0(zyy)", [][]string{{"a", "a"}, {"a", "b"}}},
		{"R0(xyz)", [][]string{{"a", "a", "a"}, {"b", "a", "a"}, {"a", "b", "a"}, {"a", "a", "b"}, {"b", "ab", ""}}},
		{"R0(zxy)", [][]string{{"a", "a", "a"}, {"b", "a", "a"}, {"a", "b", "a"}, {"a", "a", "b"}, {"ab", "", "b"}}},
		{"R0(yxz)", [][]string{{"a", "a", "a"}, {"b", "a", "a"}, {"a", "b", "a"}, {"a", "a", "b"}, {"ab", "b", ""}}},
		{"R1(xx)", [][]string{{"a"}}},
		{"R1(zx)", [][]string{{"a", "a"}, {"b", "a"}, {"b", ""}}},
		{"(R1(xy)&y=y)", [][]string{{"a", "a"}, {"a", "b"}, {"", "b"}}},
	} {
		list, code := impl.AnswersUpTo(p, c.text, 5)
		slices.SortFunc(c.want, inOrder)
		equal(t, c.text, list, c.want)
		equal(t, c.text, code, int64(impl.OK))
	}
}

// Only elements are answers, whatever else relations take.
func TestAnswersAreElements(t *testing.T) {
	p := impl.Presentation{Domain: evenA(), Relations: []impl.Relation{everything(1), everything(2), everything(3)}}
	for text, tapes := range map[string]int{"R0(x)": 1, "x=x": 1, "R1(xx)": 1, "x=y": 2, "R1(zx)": 2, "(x=x&y=y)": 2, "R2(xyz)": 3, "!R2(yzx)": 3, "(x=y|!z=z)": 3} {
		answers := made(t)(impl.AnswersTo(p, text))
		equal(t, "tapes of "+text, answers.Tapes, int64(tapes))
		for _, words := range takenUpTo(answers, 2) {
			equal(t, "answer "+strings.Join(words, ",")+" to "+text, slices.ContainsFunc(words, func(w string) bool { return strings.Count(w, "a")%2 == 1 }), false)
		}
	}
	equal(t, "all elements", made(t)(impl.AnswersTo(p, "R0(x)")), evenA())
	equal(t, "all elements", made(t)(impl.AnswersTo(impl.Presentation{Domain: padded(evenA())}, "(Ayy=y|x=x)")), evenA())
}
