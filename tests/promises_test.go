package tests

import (
	"math"
	"reflect"
	"slices"
	"strings"
	"testing"

	"loop.example/g01168/impl"
)

// call is one call of a function, with what it returns, the code last.
type call struct {
	name    string
	results []any
}

// callsOf calls every function that is given relations, words or numbers.
func callsOf(r, s impl.Relation, words []string, list []int64, tuples [][]string, n int64, text string) []call {
	var calls []call
	add := func(name string, results ...any) { calls = append(calls, call{name, results}) }
	two := func(a, b any) []any { return []any{a, b} }
	pack := func(name string, results []any) { add(name, results...) }
	add("CodeName", impl.CodeName(n))
	add("ValidWord", impl.ValidWord(text))
	add("ValidRelation", impl.ValidRelation(r))
	add("SameRelation", impl.SameRelation(r, s))
	add("RelationText", impl.RelationText(r))
	columns, code := impl.ColumnsOf(words)
	pack("ColumnsOf", two(columns, code))
	back, code := impl.WordsOf(n, list)
	pack("WordsOf", two(back, code))
	letters, code := impl.ColumnText(n, n)
	pack("ColumnText", two(letters, code))
	read, code := impl.ReadRelation(text)
	pack("ReadRelation", two(read, code))
	yes, code := impl.Holds(r, words)
	pack("Holds", two(yes, code))
	tidy, code := impl.TidyRelation(r)
	pack("TidyRelation", two(tidy, code))
	yes, code = impl.AreEqual(r, s)
	pack("AreEqual", two(yes, code))
	first, code := impl.FirstUnlike(r, s)
	pack("FirstUnlike", two(first, code))
	first, code = impl.FirstTuple(r)
	pack("FirstTuple", two(first, code))
	all, code := impl.TuplesUpTo(r, n)
	pack("TuplesUpTo", two(all, code))
	count, code := impl.CountTuples(r, n)
	pack("CountTuples", two(count, code))
	yes, code = impl.IsEmpty(r)
	pack("IsEmpty", two(yes, code))
	yes, code = impl.IsFinite(r)
	pack("IsFinite", two(yes, code))
	count, code = impl.CountAll(r)
	pack("CountAll", two(count, code))
	of, code := impl.RelationOf(n, tuples)
	pack("RelationOf", two(of, code))
	calls = append(calls, callsOfChapter2(r, s, list, n, text)...)
	for _, p := range []impl.Presentation{{Domain: r, Relations: []impl.Relation{s}}, {Domain: evenA(), Relations: []impl.Relation{r, s}}} {
		calls = append(calls, callsOfChapter3(p, words, n, text)...)
	}
	turned, code := impl.TransducerOf(r)
	add("TransducerOf", turned, code)
	calls = append(calls, callsOfChapter7(r, s, evenA(), text, n)...)
	calls = append(calls, callsOfChapter7(impl.SuccessorRelation(), s, r, "ab", n)...)
	calls = append(calls, callsOfChapter5(r, s, list, n, text)...)
	calls = append(calls, callsOfChapter4(r, s, s, []string{text, "b"}, n)...)
	return append(calls, callsOfChapter4(evenA(), r, s, slices.Concat(words, []string{"", "b"}), n)...)
}

func callsOfChapter2(r, s impl.Relation, list []int64, n int64, text string) []call {
	var calls []call
	add := func(name string) func(r impl.Relation, code int64) {
		return func(r impl.Relation, code int64) { calls = append(calls, call{name, []any{r, code}}) }
	}
	add("OppositeRelation")(impl.OppositeRelation(r))
	add("BothRelations")(impl.BothRelations(r, s))
	add("EitherRelation")(impl.EitherRelation(r, s))
	add("WithoutRelation")(impl.WithoutRelation(r, s))
	yes, code := impl.IsContained(r, s)
	calls = append(calls, call{"IsContained", []any{yes, code}})
	add("AddTape")(impl.AddTape(r, n))
	add("MoveTapes")(impl.MoveTapes(r, list))
	for _, order := range [][]int64{{0}, {1, 0}, {2, 0, 1}} {
		add("MoveTapes")(impl.MoveTapes(r, order))
	}
	add("SomeOn")(impl.SomeOn(r, n-1))
	add("AllOn")(impl.AllOn(r, n-1))
	add("ManyOn")(impl.ManyOn(r, n-1))
	add("FixTape")(impl.FixTape(r, n-1, text))
	add("FixTape")(impl.FixTape(r, n-1, "ab"))
	add("SameOn")(impl.SameOn(r, n-1, n-2))
	add("ProductOf")(impl.ProductOf(r, s))
	add("ComposeRelations")(impl.ComposeRelations(r, s))
	add("InverseRelation")(impl.InverseRelation(r))
	add("EqualWords")(impl.EqualWords(), impl.OK)
	add("IsPrefixRelation")(impl.IsPrefixRelation(), impl.OK)
	add("LengthRelation")(impl.LengthRelation(n))
	add("OrderRelation")(impl.OrderRelation(), impl.OK)
	add("SuccessorRelation")(impl.SuccessorRelation(), impl.OK)
	add("AllTuples")(impl.AllTuples(n))
	return calls
}

// callsOfChapter3 has formulas that suit the relation 0, and others.
func callsOfChapter3(p impl.Presentation, words []string, n int64, text string) []call {
	var calls []call
	add := func(name string, results ...any) { calls = append(calls, call{name, results}) }
	add("ValidPresentation", impl.ValidPresentation(p))
	add("SamePresentation", impl.SamePresentation(p, p))
	free, code := impl.FreeVariables(text)
	add("FreeVariables", free, code)
	nesting, code := impl.NestingOf(text)
	add("NestingOf", nesting, code)
	renamed, code := impl.RenameFormula("x=y", text)
	add("RenameFormula", renamed, code)
	atom := "R0(" + "yxz"[:min(max(p.Relations[0].Tapes, 0), 3)] + ")"
	for _, f := range []string{text, atom, "!" + atom, "(" + atom + ">Ex" + atom + ")", "AxEyMz" + atom, "Ey" + atom} {
		add("ValidFormula", impl.ValidFormula(p, f))
		calls = append(calls, callsForFormula(p, f, atom, words, n)...)
	}
	return calls
}

// callsForFormula calls all functions that are given a presentation and a formula,
// but for ValidFormula, which has no code.
func callsForFormula(p impl.Presentation, f, other string, words []string, n int64) []call {
	var calls []call
	add := func(name string, results ...any) { calls = append(calls, call{name, results}) }
	answers, code := impl.AnswersTo(p, f)
	add("AnswersTo", answers, code)
	yes, code := impl.Decide(p, f)
	add("Decide", yes, code)
	yes, code = impl.HoldsAt(p, f, words)
	add("HoldsAt", yes, code)
	first, code := impl.FirstAnswer(p, f)
	add("FirstAnswer", first, code)
	list, code := impl.AnswersUpTo(p, f, n)
	add("AnswersUpTo", list, code)
	w, code := impl.WitnessOf(p, f)
	add("WitnessOf", w, code)
	yes, code = impl.AreEquivalent(p, f, other)
	add("AreEquivalent", yes, code)
	first, code = impl.FirstApart(p, f, other)
	add("FirstApart", first, code)
	at, code := impl.IsModelOf(p, []string{f, "x=x"})
	add("IsModelOf", at, code)
	return calls
}

// callsOfChapter4 is given two words at least.
func callsOfChapter4(d, r, s impl.Relation, words []string, n int64) []call {
	var calls []call
	add := func(name string, results ...any) { calls = append(calls, call{name, results}) }
	add("PropertyText", impl.PropertyText(n))
	for _, kind := range append([]int64{n}, 1, 2, 3, 6, 8, 10) {
		has, code := impl.HasProperty(d, r, kind)
		add("HasProperty", has, code)
		first, code := impl.FirstAgainst(d, r, kind)
		add("FirstAgainst", first, code)
	}
	yes, code := impl.IsEquivalence(d, r)
	add("IsEquivalence", yes, code)
	yes, code = impl.IsPartialOrder(d, r)
	add("IsPartialOrder", yes, code)
	yes, code = impl.IsLinearOrder(d, r)
	add("IsLinearOrder", yes, code)
	yes, code = impl.IsDenseOrder(d, r)
	add("IsDenseOrder", yes, code)
	yes, code = impl.IsLocallyFinite(d, r)
	add("IsLocallyFinite", yes, code)
	made, code := impl.CoverOf(d, r)
	add("CoverOf", made, code)
	made, code = impl.MinimalOf(d, r)
	add("MinimalOf", made, code)
	made, code = impl.Representatives(d, r)
	add("Representatives", made, code)
	made, code = impl.KernelOf(d, r)
	add("KernelOf", made, code)
	count, code := impl.CountClasses(d, r)
	add("CountClasses", count, code)
	for _, pair := range [][2]impl.Relation{{r, s}, {everything(2), r}} {
		firsts, links, code := impl.QuotientBy(d, pair[0], pair[1])
		add("QuotientBy", firsts, code)
		add("QuotientBy", links, code)
	}
	return append(calls, callsWithWords(d, r, words[0], words[1], n)...)
}

func callsOfChapter5(r, s impl.Relation, list []int64, n int64, text string) []call {
	var calls []call
	add := func(name string, results ...any) { calls = append(calls, call{name, results}) }
	word, code := impl.NumberWord(n)
	add("NumberWord", word, code)
	number, code := impl.WordNumber(text)
	add("WordNumber", number, code)
	for _, kind := range []int64{n, impl.NkEqual, impl.NkAtMost} {
		line, code := impl.LinearRelation(kind, list, n)
		add("LinearRelation", line, code)
	}
	rests, code := impl.RestSet(n, n-1)
	add("RestSet", rests, code)
	set, code := impl.NumberSet(list)
	add("NumberSet", set, code)
	for _, r := range append(impl.Arithmetic().Relations, impl.NumberDomain(), impl.AddRelation(), impl.LessNumbers(), impl.Arithmetic().Domain) {
		add("a known relation of numbers", r, int64(impl.OK))
	}
	for _, f := range []string{text, "R1(xy)", "EzR0(xyz)", "AxEyR0(xxy)"} {
		holds, code := impl.HoldsFor(f, list)
		add("HoldsFor", holds, code)
		solutions, code := impl.SolutionsBelow(f, n)
		add("SolutionsBelow", solutions, code)
	}
	is, code := impl.IsNumberSet(r)
	add("IsNumberSet", is, code)
	calls = append(calls, callsWithSets(r, s, n)...)
	return append(calls, callsWithSets(r, r, n+1)...)
}

// withRoom makes a list whose unused capacity can be looked at.
func withRoom[T any](list []T, room ...T) []T {
	return append(slices.Clone(list), room...)[:len(list)]
}

func roomOf[T any](list []T) []T {
	return slices.Clone(list[:cap(list)])
}

func roomyRelation(r impl.Relation) impl.Relation {
	s := copyOf(r)
	s.Accept = withRoom(s.Accept, true, false, true)
	for i, row := range s.Next {
		s.Next[i] = withRoom(row, 77, 78, 79)
	}
	s.Next = withRoom(s.Next, []int64{80}, []int64{81})
	return s
}

// everythingIn copies a relation with all unused capacity.
func everythingIn(r impl.Relation) []any {
	list := []any{r.Tapes, r.Start, roomOf(r.Accept)}
	for _, row := range r.Next[:cap(r.Next)] {
		list = append(list, roomOf(row))
	}
	return list
}

func TestArgumentsAreNotModified(t *testing.T) {
	relations := append(someRelations(), wrongRelations()...)
	for i, r := range relations {
		one, two := roomyRelation(r), roomyRelation(relations[(i+1)%len(relations)])
		words := withRoom([]string{"ab", "b"}, "unused", "room")
		list := withRoom([]int64{3, 7}, 5, 6)
		tuples := withRoom([][]string{withRoom([]string{"ab", "b"}, "unused"), withRoom([]string{"", "b"}, "unused")}, []string{"room"})
		before := [][]any{everythingIn(one), everythingIn(two), {roomOf(words), roomOf(list), roomOf(tuples), roomOf(tuples[0]), roomOf(tuples[1])}}
		before = slices.Clone(before)
		callsOf(one, two, words, list, tuples, 2, "relation 1 1 0\nyes 0 0\n")
		after := [][]any{everythingIn(one), everythingIn(two), {roomOf(words), roomOf(list), roomOf(tuples), roomOf(tuples[0]), roomOf(tuples[1])}}
		if !reflect.DeepEqual(before, after) {
			t.Fatalf("arguments %v became %v", before, after)
		}
	}
}

func TestPresentationsAreNotModified(t *testing.T) {
	room := impl.Relation{Tapes: 77}
	for _, domain := range []impl.Relation{evenA(), everything(1), nothing(1), padded(circle(3))} {
		one, two := roomyRelation(impl.OrderRelation()), roomyRelation(ring(2))
		p := impl.Presentation{Domain: roomyRelation(domain), Relations: withRoom([]impl.Relation{one, two}, room, room)}
		texts := withRoom([]string{"Axx=x", "AxAy(R0(xy)|(R0(yx)|x=y))", "EzR1(zz)"}, "unused", "room")
		words := withRoom([]string{"b", "aa"}, "unused")
		seen := func() []any {
			return []any{everythingIn(p.Domain), everythingIn(one), everythingIn(two), roomOf(p.Relations), roomOf(texts), roomOf(words)}
		}
		before := seen()
		callsOfChapter3(p, words, 3, "(R0(xy)&!EzR1(xz))")
		impl.IsModelOf(p, texts)
		equal(t, "arguments", seen(), before)
	}
}

func TestEqualArgumentsHaveEqualResults(t *testing.T) {
	relations := append(someRelations(), wrongRelations()...)
	for i, r := range relations {
		s := relations[(i+1)%len(relations)]
		words := [][]string{nil, {"a"}, {"ab", "b"}, {"", "b", "aab"}}[i%4]
		one := callsOf(r, s, words, []int64{1, 1}, [][]string{{"a", "b"}}, 2, "relation 1 1 0\nyes 0 0\n")
		two := callsOf(roomyRelation(r), copyOf(s), slices.Clone(words), []int64{1, 1}, [][]string{{"a", "b"}}, 2, "relation 1 1 0\nyes 0 0\n")
		if !reflect.DeepEqual(one, two) {
			t.Fatalf("%v and then %v", one, two)
		}
	}
}

func TestNilAndEmptySlicesAreEquivalent(t *testing.T) {
	one := callsOf(impl.Relation{}, impl.Relation{Tapes: 1}, nil, nil, nil, 1, "")
	two := callsOf(impl.Relation{Accept: []bool{}, Next: [][]int64{}}, impl.Relation{Tapes: 1, Next: [][]int64{}}, []string{}, []int64{}, [][]string{}, 1, "")
	equal(t, "results", one, two)
	three := callsOf(evenA(), evenA(), nil, nil, [][]string{nil}, 1, "")
	four := callsOf(evenA(), evenA(), []string{}, []int64{}, [][]string{{}}, 1, "")
	equal(t, "results", three, four)
}

// spoil overwrites all that can be reached from slices, and what is behind them.
func spoil(r impl.Relation) {
	for i := range r.Accept {
		r.Accept[i] = !r.Accept[i]
	}
	for i, row := range r.Next {
		for c := range row {
			row[c] = -7
		}
		for c := range row[:cap(row)] {
			row[:cap(row)][c] = -7
		}
		r.Next[i] = nil
	}
}

func TestResultsShareNoMemory(t *testing.T) {
	for _, r := range someRelations() {
		tidy, _ := impl.TidyRelation(r)
		kept := copyOf(tidy)
		again, _ := impl.TidyRelation(tidy)
		spoil(again)
		equal(t, "argument, when the result has been overwritten", tidy, kept)
		third, _ := impl.TidyRelation(r)
		equal(t, "further result", third, kept)
		rowsAreApart(t, third)
	}
	text := "relation 1 2 0\nyes 1 0\nno 0 1\n"
	one, _ := impl.ReadRelation(text)
	rowsAreApart(t, one)
	spoil(one)
	two, _ := impl.ReadRelation(text)
	equal(t, "the same text", two, evenA())
	tuples := [][]string{{"a", "b"}, {"", "ab"}}
	three, _ := impl.RelationOf(2, tuples)
	rowsAreApart(t, three)
	listed, _ := impl.TuplesUpTo(three, 2)
	for i := range listed {
		_ = append(listed[i], "x")
		listed[i][0] = "x"
		equal(t, "another tuple", listed[1-i][1] != "x", true)
	}
	again, _ := impl.TuplesUpTo(three, 2)
	equal(t, "tuples", again, [][]string{{"a", "b"}, {"", "ab"}})
}

func TestResultsOfChapter2ShareNoMemory(t *testing.T) {
	for _, r := range []impl.Relation{impl.OrderRelation(), evenRing(2, 3), ring(2), everything(2), nothing(2)} {
		kept := copyOf(r)
		made := func() []call { return callsOfChapter2(r, r, []int64{0, 1}, 2, "ab") }
		first, second := made(), made()
		for i, c := range first {
			if relation, ok := c.results[0].(impl.Relation); ok && len(relation.Next) > 0 {
				rowsAreApart(t, relation)
				spoil(relation)
			}
			for j := range i {
				first[j].results = second[j].results
			}
			equal(t, c.name+": argument", r, kept)
			equal(t, c.name+": another result", first[i+1:], second[i+1:])
		}
		equal(t, "later results", made(), second)
	}
}

func TestAnswersShareNoMemory(t *testing.T) {
	for _, domain := range []impl.Relation{evenA(), made(t)(impl.AllTuples(1)), circle(2)} {
		p := impl.Presentation{Domain: domain, Relations: []impl.Relation{evenA(), made(t)(impl.AllTuples(2))}}
		kept := impl.Presentation{Domain: copyOf(domain), Relations: []impl.Relation{evenA(), made(t)(impl.AllTuples(2))}}
		for _, f := range []string{"x=x", "(Exx=x|y=y)", "R0(x)", "R1(xy)", "(Exx=x|x=y)", "MzR1(xy)", "ExExR0(y)", "(x=x&(y=y&z=z))"} {
			one := made(t)(impl.AnswersTo(p, f))
			before := copyOf(one)
			rowsAreApart(t, one)
			spoil(one)
			equal(t, "presentation", p, kept)
			equal(t, "other answers to "+f, made(t)(impl.AnswersTo(p, f)), before)
		}
		list, _ := impl.AnswersUpTo(p, "R1(xy)", 1)
		before, _ := impl.AnswersUpTo(p, "R1(xy)", 1)
		for i := range list {
			_ = append(list[i], "x")
			list[i][0] = "x"
			equal(t, "the next answers", list[i+1:], before[i+1:])
		}
	}
}

func TestResultsOfChapter4ShareNoMemory(t *testing.T) {
	for _, domain := range []impl.Relation{made(t)(impl.AllTuples(1)), listed(t, []string{"", "a", "b"}), nothing(1)} {
		for _, r := range []impl.Relation{impl.EqualWords(), made(t)(impl.AllTuples(2)), nothing(2), impl.SuccessorRelation()} {
			keptDomain, kept := copyOf(domain), copyOf(r)
			for _, calls := range [][2][]call{
				{callsOfChapter4(domain, r, r, []string{"", "b"}, 0), callsOfChapter4(domain, r, r, []string{"", "b"}, 0)},
				{callsOfChapter4(domain, r, r, []string{"b", ""}, 1), callsOfChapter4(domain, r, r, []string{"b", ""}, 1)},
			} {
				isUnshared(t, calls[0], calls[1])
				equal(t, "arguments", []impl.Relation{domain, r}, []impl.Relation{keptDomain, kept})
			}
		}
	}
}

func TestResultsOfChapter5ShareNoMemory(t *testing.T) {
	for _, r := range []impl.Relation{impl.NumberDomain(), nothing(1), numberSet(t, 1, 4), rests(t, 3, 1), powersOfTwo()} {
		kept := copyOf(r)
		for _, n := range []int64{0, 1, 2} {
			made := func() []call { return callsOfChapter5(r, r, []int64{1, -1}, n, "R0(xyz)") }
			isUnshared(t, made(), made())
			equal(t, "argument", r, kept)
		}
	}
}

func TestSetsOfNumbersAreNotModified(t *testing.T) {
	for i, r := range someSets(t) {
		if i%3 != 0 {
			continue
		}
		one, two := roomyRelation(r), roomyRelation(rests(t, 3, 1))
		list := withRoom([]int64{1, 4}, 5, 6)
		seen := func() []any { return []any{everythingIn(one), everythingIn(two), roomOf(list)} }
		before := seen()
		callsOfChapter5(one, two, list, 2, "R1(xy)")
		equal(t, "arguments", seen(), before)
		first, second := callsOfChapter5(one, two, list, 3, "R1(xy)"), callsOfChapter5(copyOf(r), two, []int64{1, 4}, 3, "R1(xy)")
		equal(t, "results for equal arguments", first, second)
	}
}

// isUnshared overwrites one result after the other, and looks whether those that
// are left are the same as in further calls.
func isUnshared(t *testing.T, first, second []call) {
	t.Helper()
	for i, c := range first {
		if r, ok := c.results[0].(impl.Relation); ok && len(r.Next) > 0 {
			rowsAreApart(t, r)
			spoil(r)
			equal(t, c.name+": another result", first[i+1:], second[i+1:])
		}
	}
}

// rowsAreApart writes behind the end of each row, which must not be seen in another one.
func rowsAreApart(t *testing.T, r impl.Relation) {
	t.Helper()
	kept := copyOf(r)
	for i, row := range r.Next {
		_ = append(row, -9, -9, -9)
		old := row[0]
		row[0] = -9
		for j := range r.Next {
			if i != j && !slices.Equal(r.Next[j], kept.Next[j]) {
				t.Fatalf("rows %d and %d share memory", i, j)
			}
		}
		row[0] = old
	}
}

func TestInvalidRelationsAreToldFirst(t *testing.T) {
	for _, r := range wrongRelations() {
		for _, c := range callsOf(r, everything(2), []string{"a", "c"}, nil, nil, -5, "") {
			switch c.name {
			case "Holds", "TidyRelation", "AreEqual", "FirstUnlike", "FirstTuple", "TuplesUpTo", "CountTuples", "IsEmpty", "IsFinite", "CountAll",
				"OppositeRelation", "BothRelations", "EitherRelation", "WithoutRelation", "IsContained", "AddTape", "MoveTapes", "SomeOn", "AllOn", "ManyOn",
				"FixTape", "SameOn", "ProductOf", "ComposeRelations", "InverseRelation",
				"AnswersTo", "Decide", "HoldsAt", "FirstAnswer", "AnswersUpTo", "WitnessOf", "AreEquivalent", "FirstApart", "IsModelOf",
				"HasProperty", "FirstAgainst", "IsEquivalence", "IsPartialOrder", "IsLinearOrder", "IsDenseOrder", "CoverOf", "MinimalOf", "ClassOf",
				"RepresentativeOf", "Representatives", "CountClasses", "KernelOf", "QuotientBy", "DegreeOf", "IsLocallyFinite", "BehindSteps", "DistanceOf",
				"IsNumberSet", "LeastNumber", "GreatestNumber", "ShiftSet", "SumOfSets", "CountBelow", "IsPeriodic", "PeriodOf", "TransducerOf":
				equal(t, c.name, c.results[1], int64(impl.ErrInvalid))
			}
		}
		_, code := impl.AreEqual(everything(2), r)
		equal(t, "AreEqual, second", code, int64(impl.ErrInvalid))
		_, code = impl.FirstUnlike(everything(2), r)
		equal(t, "FirstUnlike, second", code, int64(impl.ErrInvalid))
		for _, join := range []func(r, s impl.Relation) (impl.Relation, int64){
			impl.BothRelations, impl.EitherRelation, impl.WithoutRelation, contained, impl.ProductOf, impl.ComposeRelations,
		} {
			equal(t, "second of two", codeOf(join(everything(3), r)), int64(impl.ErrInvalid))
		}
	}
}

// Whatever the arguments are, a result with an error is empty.
func TestResultsWithErrorsAreZero(t *testing.T) {
	relations := append(someRelations(), wrongRelations()...)
	texts := []string{"", "relation", "relation 1 1 0\nyes 0 0\n", strings.Repeat("relation 1 1 0\n", 5000), "x=x", "Ex!x=x", "(x=y&Mxx=x)"}
	numbers := []int64{0, 1, 2, 3, 4, -1, impl.MaxLength, impl.MaxLength + 1, math.MaxInt64, math.MinInt64}
	for i, r := range relations {
		n := numbers[i%len(numbers)]
		s := relations[(i*7+3)%len(relations)]
		for _, c := range callsOf(r, s, []string{"a", "b"}, []int64{n, 1}, [][]string{{"a", "b"}}, n, texts[i%len(texts)]) {
			if len(c.results) == 2 && c.results[1] != int64(impl.OK) && !isZero(c.results[0]) {
				t.Errorf("%s returns %v", c.name, c.results)
			}
		}
	}
}

func isZero(result any) bool {
	v := reflect.ValueOf(result)
	return v.IsZero() || v.Kind() == reflect.Slice && v.Len() == 0
}

func TestLargeArguments(t *testing.T) {
	const many = 1000000
	words := slices.Repeat([]string{"a"}, many)
	tuples := slices.Repeat([][]string{nil}, many)
	list := make([]int64, many)
	rows := slices.Repeat([][]int64{{0, 0}}, many/2)
	large := impl.Relation{Tapes: 1, Accept: make([]bool, many/2), Next: rows}
	wide := impl.Relation{Tapes: 1, Accept: []bool{true}, Next: [][]int64{list}}
	for _, r := range []impl.Relation{large, wide} {
		for _, text := range []string{strings.Repeat("a", many), strings.Repeat("\n", many), strings.Repeat("\n", impl.MaxText), strings.Repeat(" ", impl.MaxText)} {
			callsOf(r, r, words, list, tuples, 1, text)
			callsOf(r, r, []string{text}, list, [][]string{words}, 1, text)
		}
	}
	list1, code := impl.ColumnsOf(words)
	equal(t, "too many words", code, int64(impl.ErrRange))
	equal(t, "too many words", len(list1), 0)
	_, code = impl.RelationOf(1, append(tuples, []string{"c"}))
	equal(t, "too many tuples, with a text that is no word", code, int64(impl.ErrInvalid))
}

// The largest relations that are valid, with all functions.
func TestLargestRelations(t *testing.T) {
	d := dice(31)
	for tapes := int64(1); tapes <= 3; tapes++ {
		r, s := randomRelation(&d, tapes, impl.MaxStates), randomRelation(&d, tapes, impl.MaxStates)
		slow := randomRelation(&d, tapes, impl.MaxStates)
		for i := range slow.Next {
			slow.Accept[i] = i == 0
			for c := range slow.Next[i] {
				slow.Next[i][c] = int64((i + 1) % impl.MaxStates)
			}
		}
		for _, c := range callsOf(r, s, []string{"a", "b", ""}[:tapes], nil, nil, impl.MaxLength, "") {
			if c.name == "IsFinite" || c.name == "AreEqual" {
				equal(t, c.name, c.results, []any{false, int64(impl.OK)})
			}
		}
		callsOf(slow, slow, nil, nil, nil, impl.MaxLength, "")
		callsOf(slow, r, nil, nil, nil, impl.MaxLength, "")
	}
}
