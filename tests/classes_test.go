package tests

import (
	"slices"
	"strings"
	"testing"

	"loop.example/g01168/impl"
)

const longestLooked = 3

// firstOf returns the first word with at most so many letters that is taken.
func firstOf(r impl.Relation) (string, bool) {
	for _, w := range wordsUpTo(longestLooked) {
		if takes(r, []string{w}) {
			return w, true
		}
	}
	return "", false
}

// sizeOf returns how many words a relation of one tape takes, and whether these
// are only so many. It takes a longer word than it has states just if it takes
// infinitely many.
func sizeOf(r impl.Relation) (int64, bool) {
	if _, _, many := takenAlone(r); many {
		return 0, false
	}
	size := int64(0)
	counts := map[int64]int64{r.Start: 1}
	for range len(r.Next) {
		next := map[int64]int64{}
		for s, count := range counts {
			if r.Accept[s] {
				size += count
			}
			next[r.Next[s][0]] += count
			next[r.Next[s][1]] += count
		}
		counts = next
	}
	return size, true
}

func isRepresentative(t *testing.T, g graph, w, want string, code int64) {
	t.Helper()
	got, second := impl.RepresentativeOf(g.d, g.r, w)
	equal(t, "RepresentativeOf "+w, []any{got, second}, []any{want, code})
}

// Classes have just the elements that are linked, and their first ones and sizes
// are told, whether the relation is an equivalence or not.
func TestClassOf(t *testing.T) {
	seen := map[int64]int{}
	for _, g := range smallGraphs(t) {
		for _, w := range wordsUpTo(2) {
			class, code := impl.ClassOf(g.d, g.r, w)
			if !g.has(w) {
				isNoElement(t, g, w)
				continue
			}
			equal(t, "code of ClassOf", code, int64(impl.OK))
			equal(t, "fault of ClassOf", faultOf(class), "")
			for _, y := range wordsUpTo(longestLooked) {
				if takes(class, []string{y}) != g.links(w, y) {
					t.Fatalf("ClassOf %v and %q: %q", g, w, y)
				}
			}
			if first, found := firstOf(class); found {
				isRepresentative(t, g, w, first, impl.OK)
			} else if takeTheSame(class, nothing(1)) {
				isRepresentative(t, g, w, "", impl.ErrNotFound)
			}
			size, finite := sizeOf(class)
			degree, code := impl.DegreeOf(g.d, g.r, w)
			if finite {
				equal(t, "DegreeOf", []any{degree, code}, []any{size, int64(impl.OK)})
			} else {
				equal(t, "DegreeOf", []any{degree, code}, []any{int64(0), int64(impl.ErrState)})
			}
			seen[code]++
		}
	}
	if seen[impl.OK] < 100 || seen[impl.ErrState] < 100 {
		t.Errorf("codes %v, so the test tells little", seen)
	}
}

func isNoElement(t *testing.T, g graph, w string) {
	t.Helper()
	for _, c := range callsWithWords(g.d, g.r, w, w, 0) {
		equal(t, c.name+" of a word that is no element", c.results[1], int64(impl.ErrNotFound))
	}
}

// The first elements are those before which no element is linked. Elements of the
// kernel lead to the same one.
func TestRepresentativesAndKernelOf(t *testing.T) {
	seen := map[int64]int{}
	for _, g := range smallGraphs(t) {
		firsts, code := impl.Representatives(g.d, g.r)
		equal(t, "code of Representatives", code, int64(impl.OK))
		equal(t, "fault of Representatives", faultOf(firsts), "")
		isKernel(t, g)
		words := wordsUpTo(longestLooked)
		for i, x := range words {
			linked := slices.ContainsFunc(words[:i], func(y string) bool { return g.links(x, y) })
			if takes(firsts, []string{x}) != (g.has(x) && !linked) {
				t.Fatalf("Representatives of %v: %q", g, x)
			}
		}
		size, finite := sizeOf(firsts)
		count, code := impl.CountClasses(g.d, g.r)
		if finite {
			equal(t, "CountClasses", []any{count, code}, []any{size, int64(impl.OK)})
		} else {
			equal(t, "CountClasses", []any{count, code}, []any{int64(0), int64(impl.ErrState)})
		}
		seen[code]++
	}
	if seen[impl.OK] < 50 || seen[impl.ErrState] < 50 {
		t.Errorf("codes %v, so the test tells little", seen)
	}
}

// isKernel looks at the pairs of elements that lead to the same one, if these are
// found. (Which limits there are is seen elsewhere.)
func isKernel(t *testing.T, g graph) {
	t.Helper()
	kernel, code := impl.KernelOf(g.d, g.r)
	if code == impl.ErrLimit {
		return
	}
	equal(t, "code of KernelOf", code, int64(impl.OK))
	equal(t, "fault of KernelOf", faultOf(kernel), "")
	pairs := g.pairs()
	to := naiveMove(naiveBoth(pairs, naiveTurned(pairs)), []int64{0, 2, 1})
	for _, words := range tuplesOf(wordsUpTo(2), 2) {
		if some, _, _ := takenWith(to, 2, words); takes(kernel, words) != some {
			t.Fatalf("KernelOf %v: %q", g, words)
		}
	}
}

// Each element belongs to one class with one representative, which is an element
// of the class and the first one.
func TestClassesOfEquivalences(t *testing.T) {
	for _, domain := range someDomains(t) {
		for _, e := range append(equivalences(t), sameLast()) {
			g := graph{domain, e}
			firsts := made(t)(impl.Representatives(g.d, g.r))
			elements := g.elements(longestLooked)
			classes := map[string]impl.Relation{}
			for _, w := range elements {
				class := made(t)(impl.ClassOf(g.d, g.r, w))
				first, code := impl.RepresentativeOf(g.d, g.r, w)
				equal(t, "code of RepresentativeOf", code, int64(impl.OK))
				equal(t, "the class has w and its representative", takes(class, []string{w}) && takes(class, []string{first}), true)
				ofClass := made(t)(impl.BothRelations(class, firsts))
				equal(t, "representatives in a class", ofClass, listed(t, []string{first}))
				equal(t, "class of the representative", made(t)(impl.ClassOf(g.d, g.r, first)), class)
				classes[w] = class
			}
			for _, v := range elements {
				for _, w := range elements {
					same := impl.SameRelation(classes[v], classes[w])
					apart := takeTheSame(naivePairs(classes[v], classes[w], takesBoth), nothing(1))
					if same != takes(e, []string{v, w}) || apart == same {
						t.Fatalf("classes of %q and %q in %v", v, w, g)
					}
				}
			}
		}
	}
}

func TestCountsOfClasses(t *testing.T) {
	few := listed(t, []string{"", "a", "b", "ab", "bbb"})
	for _, c := range []struct {
		d, e  impl.Relation
		count int64
		code  int64
	}{
		{everything(1), everything(2), 1, impl.OK},
		{everything(1), sameRest(2), 2, impl.OK},
		{everything(1), sameRest(3), 3, impl.OK},
		{everything(1), sameCount(), 2, impl.OK},
		{evenA(), sameCount(), 1, impl.OK},
		{everything(1), sameLast(), 3, impl.OK},
		{endingInB(), sameLast(), 1, impl.OK},
		{everything(1), impl.EqualWords(), 0, impl.ErrState},
		{everything(1), lengths(t, impl.RlEqual), 0, impl.ErrState},
		{chainsOf("b"), lengths(t, impl.RlEqual), 0, impl.ErrState},
		{few, lengths(t, impl.RlEqual), 4, impl.OK},
		{few, impl.EqualWords(), 5, impl.OK},
		{few, sameLast(), 3, impl.OK},
		{few, nothing(2), 5, impl.OK},
		{few, impl.SuccessorRelation(), 5, impl.OK},
		{few, inverseOf(t, impl.SuccessorRelation()), 3, impl.OK},
		{nothing(1), impl.EqualWords(), 0, impl.OK},
		{nothing(1), everything(2), 0, impl.OK},
		{circle(32), everything(2), 0, impl.ErrLimit},
	} {
		count, code := impl.CountClasses(c.d, c.e)
		equal(t, "CountClasses", []any{count, code}, []any{c.count, c.code})
	}
}

// randomClasses puts some words into classes, and returns their equivalence.
func randomClasses(t *testing.T, d *dice, words []string) (impl.Relation, map[string]int64) {
	t.Helper()
	numbers := map[string]int64{}
	for _, w := range words {
		numbers[w] = d.below(3)
	}
	var pairs [][]string
	for _, words := range tuplesOf(words, 2) {
		if numbers[words[0]] == numbers[words[1]] {
			pairs = append(pairs, words)
		}
	}
	return made(t)(impl.RelationOf(2, pairs)), numbers
}

// Classes are linked just if elements of them are.
func TestQuotientsOfFewElements(t *testing.T) {
	d := dice(109)
	linked := 0
	for range 150 {
		words := fewElements(&d).elements
		e, numbers := randomClasses(t, &d, words)
		g := graph{listed(t, words), randomRelation(&d, 2, 1+d.below(3))}
		firsts, links, code := impl.QuotientBy(g.d, e, g.r)
		equal(t, "code", code, int64(impl.OK))
		isFirst := func(w string) bool {
			return !slices.ContainsFunc(words[:slices.Index(words, w)], func(v string) bool { return numbers[v] == numbers[w] })
		}
		wanted := slices.DeleteFunc(slices.Clone(words), func(w string) bool { return !isFirst(w) })
		equal(t, "elements", firsts, listed(t, wanted))
		var pairs [][]string
		for _, ends := range tuplesOf(wanted, 2) {
			if slices.ContainsFunc(tuplesOf(words, 2), func(pair []string) bool {
				return numbers[pair[0]] == numbers[ends[0]] && numbers[pair[1]] == numbers[ends[1]] && takes(g.r, pair)
			}) {
				pairs = append(pairs, ends)
			}
		}
		equal(t, "pairs", links, made(t)(impl.RelationOf(2, pairs)))
		linked += len(pairs)
	}
	if linked < 100 {
		t.Errorf("only %d pairs of classes", linked)
	}
}

// quotientPairs is an automaton of the elements between whose classes there are
// pairs, among all elements.
func quotientPairs(classes, pairs impl.Relation) impl.Relation {
	half := naiveTidy(naiveSets(naiveTidy(naiveBoth(classes, pairs)), 1))
	return naiveSets(naiveTidy(naiveBoth(half, classes)), 1)
}

func TestQuotients(t *testing.T) {
	seen := map[int64]int{}
	for i, domain := range someDomains(t) {
		for j, e := range equivalences(t) {
			for k, r := range knownPairs(t) {
				if (i+2*j+3*k)%5 != 0 {
					continue
				}
				firsts, links, code := impl.QuotientBy(domain, e, r)
				seen[code]++
				if code == impl.ErrLimit {
					continue
				}
				equal(t, "code", code, int64(impl.OK))
				equal(t, "elements", firsts, made(t)(impl.Representatives(domain, e)))
				equal(t, "fault", faultOf(links), "")
				want := graph{firsts, quotientPairs(graph{domain, e}.pairs(), graph{domain, r}.pairs())}
				equal(t, "pairs", takeTheSame(links, want.pairs()), true)
				if t.Failed() {
					t.Fatalf("quotient by %v of %v", e, graph{domain, r})
				}
			}
		}
	}
	if seen[impl.OK] < 200 {
		t.Errorf("codes %v, so the test tells little", seen)
	}
}

func TestQuotientsOfKnownRelations(t *testing.T) {
	all, onlyA := everything(1), chainsOf("a")
	lengthsOf := func(kind int64) impl.Relation { return lengths(t, kind) }
	onA := func(r impl.Relation) impl.Relation { return made(t)(impl.TidyRelation(graph{onlyA, r}.pairs())) }
	for _, c := range []struct{ d, e, r, firsts, links impl.Relation }{
		{all, impl.EqualWords(), impl.OrderRelation(), all, impl.OrderRelation()},
		{all, lengthsOf(impl.RlEqual), impl.OrderRelation(), onlyA, butFor(t, onA(lengthsOf(impl.RlAtMost)), []string{"", ""})},
		{all, lengthsOf(impl.RlEqual), impl.IsPrefixRelation(), onlyA, onA(lengthsOf(impl.RlAtMost))},
		{all, lengthsOf(impl.RlEqual), lengthsOf(impl.RlLess), onlyA, onA(lengthsOf(impl.RlLess))},
		{all, everything(2), nothing(2), listed(t, []string{""}), nothing(2)},
		{all, everything(2), differing(1), listed(t, []string{""}), pairsOf(t, "", "")},
		{all, sameRest(2), nextLengths(t), listed(t, []string{"", "a"}), pairsOf(t, "", "a", "a", "")},
		{all, sameRest(3), nextLengths(t), listed(t, []string{"", "a", "aa"}), pairsOf(t, "", "a", "a", "aa", "aa", "")},
		{all, sameRest(2), impl.SuccessorRelation(), listed(t, []string{"", "a"}), pairsOf(t, "", "", "", "a", "a", "", "a", "a")},
		{listed(t, []string{"", "b", "ab", "aab"}), sameRest(2), pairsWith(all), listed(t, []string{"", "b"}), pairsOf(t, "", "", "", "b")},
		{all, sameCount(), pairsWith(chainsOf("b")), listed(t, []string{"", "a"}), pairsOf(t, "", "")},
		{endingInB(), sameLast(), impl.SuccessorRelation(), listed(t, []string{"b"}), nothing(2)},
		{nothing(1), everything(2), everything(2), nothing(1), nothing(2)},
	} {
		firsts, links, code := impl.QuotientBy(c.d, c.e, c.r)
		equal(t, "code", code, int64(impl.OK))
		equal(t, "elements", firsts, made(t)(impl.TidyRelation(c.firsts)))
		equal(t, "pairs", links, c.links)
	}
}

// pairsOf is the relation of some pairs of words.
func pairsOf(t *testing.T, words ...string) impl.Relation {
	t.Helper()
	var list [][]string
	for pair := range slices.Chunk(words, 2) {
		list = append(list, pair)
	}
	return made(t)(impl.RelationOf(2, list))
}

// Classes and quotients are made by functions of chapters 2 and 3, with the limits
// of these.
func TestClassesAsTold(t *testing.T) {
	seen := map[int64]int{}
	for _, g := range someGraphs(t) {
		pairs, code := impl.AnswersTo(g.presentation(), "R0(xy)")
		for _, w := range []string{"", "a", "bb", "aaaa"} {
			if !g.has(w) {
				continue
			}
			want, wanted := pairs, code
			if wanted == impl.OK {
				want, wanted = impl.FixTape(pairs, 0, w)
			}
			got, second := impl.ClassOf(g.d, g.r, w)
			isToldRelation(t, "ClassOf", got, second, want, wanted)
			seen[wanted]++
			if wanted == impl.ErrLimit {
				isRepresentative(t, g, w, "", impl.ErrLimit)
				degree, second := impl.DegreeOf(g.d, g.r, w)
				equal(t, "DegreeOf", []any{degree, second}, []any{int64(0), int64(impl.ErrLimit)})
			}
		}
		kernel, code := impl.AnswersTo(g.presentation(), "Ez(R0(xz)&R0(yz))")
		got, second := impl.KernelOf(g.d, g.r)
		isToldRelation(t, "KernelOf", got, second, kernel, code)
		firsts, code := impl.AnswersTo(g.presentation(impl.OrderRelation()), "!Ey(R0(xy)&R1(yx))")
		got, second = impl.Representatives(g.d, g.r)
		isToldRelation(t, "Representatives", got, second, firsts, code)
		count, second := impl.CountClasses(g.d, g.r)
		if code == impl.ErrLimit {
			equal(t, "CountClasses", []any{count, second}, []any{int64(0), code})
		}
		few, code := impl.Decide(g.presentation(), "!ExMyR0(xy)")
		is, second := impl.IsLocallyFinite(g.d, g.r)
		equal(t, "IsLocallyFinite", []any{is, second}, []any{few, code})
		seen[code]++
	}
	if seen[impl.OK] < 200 || seen[impl.ErrLimit] < 30 {
		t.Errorf("codes %v, so the test tells little", seen)
	}
}

// toldQuotient follows the document by calls of functions of chapters 2 and 3.
func toldQuotient(d, e, r impl.Relation) (impl.Relation, impl.Relation, int64) {
	w := &teller{}
	for _, kind := range []int64{impl.SkReflexive, impl.SkSymmetric, impl.SkTransitive} {
		w.keep(impl.AnswersTo(graph{d, e}.presentation(), textsAgainst[kind]))
	}
	if is, code := impl.IsEquivalence(d, e); code == impl.OK && !is {
		return impl.Relation{}, impl.Relation{}, impl.ErrState
	}
	pairs := func(d, r impl.Relation) impl.Relation {
		return w.keep(impl.AnswersTo(graph{d, r}.presentation(), "R0(xy)"))
	}
	firsts := w.keep(impl.Representatives(d, e))
	f, g := pairs(d, e), pairs(d, r)
	if w.code != impl.OK {
		return impl.Relation{}, impl.Relation{}, w.code
	}
	links := w.keep(impl.ComposeRelations(f, g))
	if w.code != impl.OK {
		return impl.Relation{}, impl.Relation{}, w.code
	}
	links = w.keep(impl.ComposeRelations(links, f))
	if w.code == impl.OK {
		links = pairs(firsts, links)
	}
	if w.code != impl.OK {
		return impl.Relation{}, impl.Relation{}, w.code
	}
	return firsts, links, impl.OK
}

func TestQuotientsAsTold(t *testing.T) {
	seen := map[int64]int{}
	graphs := someGraphs(t)
	more := append(equivalences(t), sameRest(7), sameRest(14), impl.OrderRelation(), differing(1), ring(148))
	for i, g := range graphs {
		e := more[i%len(more)]
		if i%3 == 0 {
			e = graphs[(i*7)%len(graphs)].r
		}
		firsts, links, code := impl.QuotientBy(g.d, e, g.r)
		one, two, wanted := toldQuotient(g.d, e, g.r)
		isToldRelation(t, "elements of the quotient", firsts, code, one, wanted)
		isToldRelation(t, "pairs of the quotient", links, code, two, wanted)
		seen[wanted]++
	}
	if seen[impl.OK] < 40 || seen[impl.ErrState] < 15 || seen[impl.ErrLimit] < 20 {
		t.Errorf("codes %v, so the test tells little", seen)
	}
}

// It matters only among the elements whether a relation is an equivalence.
func TestQuotientsByRelationsThatAreNone(t *testing.T) {
	few := listed(t, []string{"", "a", "b"})
	notReflexive := pairsOf(t, "", "", "a", "a", "a", "b", "b", "a")
	notSymmetric := pairsOf(t, "", "", "a", "a", "b", "b", "a", "b")
	notTransitive := pairsOf(t, "", "", "a", "a", "b", "b", "a", "b", "b", "a", "b", "", "", "b")
	far := pairsOf(t, "", "", "a", "a", "b", "b", "ab", "", "bb", "b")
	for _, c := range []struct {
		d, e impl.Relation
		code int64
	}{
		{few, notReflexive, impl.ErrState},
		{few, notSymmetric, impl.ErrState},
		{few, notTransitive, impl.ErrState},
		{few, nothing(2), impl.ErrState},
		{few, far, impl.OK},
		{listed(t, []string{"", "a", "b", "ab"}), far, impl.ErrState},
		{listed(t, []string{"a", "b"}), notReflexive, impl.ErrState},
		{listed(t, []string{"a", "b"}), notTransitive, impl.OK},
		{listed(t, []string{"", "b"}), notSymmetric, impl.OK},
		{nothing(1), nothing(2), impl.OK},
		{everything(1), impl.IsPrefixRelation(), impl.ErrState},
		{everything(1), impl.OrderRelation(), impl.ErrState},
		{everything(1), differing(1), impl.ErrState},
		{everything(1), far, impl.ErrState},
		{circle(6), nothing(2), impl.ErrLimit},
	} {
		for _, r := range []impl.Relation{impl.SuccessorRelation(), everything(2)} {
			firsts, links, code := impl.QuotientBy(c.d, c.e, r)
			equal(t, "code", code, c.code)
			if code != impl.OK {
				equal(t, "results", []impl.Relation{firsts, links}, []impl.Relation{{}, {}})
			}
		}
	}
}

func TestErrorsOfQuotients(t *testing.T) {
	none, one, two, three := impl.Relation{}, everything(1), everything(2), everything(3)
	order, large := impl.OrderRelation(), ring(148)
	for _, c := range []struct {
		d, e, r impl.Relation
		code    int64
	}{
		{none, one, one, impl.ErrInvalid},
		{two, none, one, impl.ErrInvalid},
		{two, one, none, impl.ErrInvalid},
		{one, order, none, impl.ErrInvalid},
		{two, two, two, impl.ErrRange},
		{three, order, large, impl.ErrRange},
		{one, one, large, impl.ErrRange},
		{one, three, order, impl.ErrRange},
		{one, order, one, impl.ErrRange},
		{one, order, three, impl.ErrRange},
		{one, order, large, impl.ErrState},
		{one, two, large, impl.ErrLimit},
		{one, large, two, impl.ErrLimit},
		{one, large, large, impl.ErrLimit},
		{one, two, order, impl.OK},
	} {
		firsts, links, code := impl.QuotientBy(c.d, c.e, c.r)
		equal(t, "code", code, c.code)
		if code != impl.OK {
			equal(t, "results", []impl.Relation{firsts, links}, []impl.Relation{{}, {}})
		}
	}
}

// The first element of a class may have MaxWord letters, and no more.
func TestLimitsOfRepresentatives(t *testing.T) {
	long := strings.Repeat("a", impl.MaxWord)
	all := everything(1)
	isRepresentative(t, graph{all, pairsWith(chain(impl.MaxWord))}, "", long, impl.OK)
	isRepresentative(t, graph{all, pairsWith(chain(impl.MaxWord + 1))}, "", "", impl.ErrLimit)
	isRepresentative(t, graph{all, pairsWith(nothing(1))}, "", "", impl.ErrNotFound)
	isRepresentative(t, graph{all, pairsWith(chain(impl.MaxWord + 1))}, "a", "", impl.ErrNotFound)
	isRepresentative(t, graph{all, impl.EqualWords()}, long, long, impl.OK)
	isRepresentative(t, graph{all, impl.EqualWords()}, long+"a", "", impl.ErrInvalid)
	isRepresentative(t, graph{evenA(), everything(2)}, "a", "", impl.ErrNotFound)
	isRepresentative(t, graph{evenA(), everything(2)}, "bb", "", impl.OK)
	isRepresentative(t, graph{endingInB(), everything(2)}, "ab", "b", impl.OK)
}

// A class may have 1000000000 elements, and no more, if they are counted.
func TestLimitsOfDegrees(t *testing.T) {
	const most = 1000000000
	all := everything(1)
	for _, c := range []struct {
		r            impl.Relation
		w            string
		degree, code int64
	}{
		{pairsWith(firstWords(most - 1)), "", most - 1, impl.OK},
		{pairsWith(firstWords(most)), "", most, impl.OK},
		{pairsWith(firstWords(most + 1)), "", 0, impl.ErrLimit},
		{pairsWith(firstWords(most + 1)), "a", 0, impl.OK},
		{pairsWith(all), "", 0, impl.ErrState},
		{pairsWith(nothing(1)), "", 0, impl.OK},
		{pairsWith(circle(80)), "", 0, impl.ErrState},
		{ring(148), "", 0, impl.ErrLimit},
		{lengths(t, impl.RlEqual), strings.Repeat("ab", 10), 1 << 20, impl.OK},
		{lengths(t, impl.RlLess), "aaa", 0, impl.ErrState},
		{inverseOf(t, lengths(t, impl.RlLess)), "aaa", 7, impl.OK},
		{lengths(t, impl.RlEqual), strings.Repeat("ab", 15), 0, impl.ErrLimit},
		{impl.EqualWords(), strings.Repeat("b", impl.MaxWord), 1, impl.OK},
	} {
		degree, code := impl.DegreeOf(all, c.r, c.w)
		equal(t, "DegreeOf", []any{degree, code}, []any{c.degree, c.code})
	}
}

func TestIsLocallyFinite(t *testing.T) {
	all := everything(1)
	for _, c := range []struct {
		d, r impl.Relation
		want bool
	}{
		{all, impl.EqualWords(), true},
		{all, lengths(t, impl.RlEqual), true},
		{all, impl.SuccessorRelation(), true},
		{all, impl.IsPrefixRelation(), false},
		{all, inverseOf(t, impl.IsPrefixRelation()), true},
		{all, impl.OrderRelation(), false},
		{all, inverseOf(t, impl.OrderRelation()), true},
		{all, pairsWith(all), false},
		{all, inverseOf(t, pairsWith(all)), true},
		{all, pairsWith(firstWords(50)), true},
		{all, sameRest(3), false},
		{chain(3), everything(2), true},
		{nothing(1), everything(2), true},
		{firstWords(6), impl.IsPrefixRelation(), true},
		{endingInB(), pairsWith(all), true},
		{circle(2), pairsWith(all), false},
	} {
		is, code := impl.IsLocallyFinite(c.d, c.r)
		equal(t, "IsLocallyFinite", []any{is, code}, []any{c.want, int64(impl.OK)})
	}
	for _, g := range smallGraphs(t) {
		is, code := impl.IsLocallyFinite(g.d, g.r)
		equal(t, "code", code, int64(impl.OK))
		for _, w := range g.elements(longestLooked) {
			if _, _, many := takenWith(g.pairs(), 1, []string{w}); many && is {
				t.Fatalf("%v is not locally finite at %q", g, w)
			}
		}
	}
}
