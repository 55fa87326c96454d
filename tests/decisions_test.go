package tests

import (
	"slices"
	"strings"
	"testing"

	"loop.example/g01168/impl"
)

func prefixes() impl.Presentation {
	return impl.Presentation{Domain: everything(1), Relations: []impl.Relation{impl.IsPrefixRelation(), impl.OrderRelation(), impl.SuccessorRelation()}}
}

func TestExamplesOfChapter3(t *testing.T) {
	p := impl.Presentation{Domain: made(t)(impl.AllTuples(1)), Relations: []impl.Relation{impl.IsPrefixRelation()}}
	for _, f := range []string{"AxEy(R0(xy)&!x=y)", "AxMyR0(xy)"} {
		isDecided(t, p, f, true, impl.OK)
	}
	list, code := impl.AnswersUpTo(p, "AyR0(xy)", impl.MaxLength)
	equal(t, "AyR0(xy)", []any{list, code}, []any{[][]string{{""}}, int64(impl.OK)})
	isWitness(t, p, "ExEy(!R0(xy)&!R0(yx))", "a", impl.OK)
	free, code := impl.FreeVariables("(EyR0(xy)&z=z)")
	equal(t, "FreeVariables", []any{free, code}, []any{"xz", int64(impl.OK)})
}

func isDecided(t *testing.T, p impl.Presentation, f string, want bool, code int64) {
	t.Helper()
	holds, got := impl.Decide(p, f)
	equal(t, "Decide "+f, []any{holds, got}, []any{want, code})
}

func isWitness(t *testing.T, p impl.Presentation, f, want string, code int64) {
	t.Helper()
	w, got := impl.WitnessOf(p, f)
	equal(t, "WitnessOf "+f, []any{w, got}, []any{want, code})
}

func TestDecideOfKnownRelations(t *testing.T) {
	for f, want := range map[string]bool{
		"AxR0(xx)":                                true,
		"AxAyAz((R0(xy)&R0(yz))>R0(xz))":          true,
		"AxAy((R0(xy)&R0(yx))~x=y)":               true,
		"AxAy(R0(xy)|R0(yx))":                     false,
		"AxAyAz((R0(xz)&R0(yz))>(R0(xy)|R0(yx)))": true,
		"ExAyR0(xy)":                              true,
		"ExAyR0(yx)":                              false,
		"MxAyR0(xy)":                              false,
		"MxMyR0(xy)":                              true,
		"AxMyR0(yx)":                              false,
		"ExMyR0(yx)":                              false,
		"Ax!MyR0(yx)":                             true,
		"AxAy(R1(xy)|(R1(yx)|x=y))":               true,
		"AxMyR1(xy)":                              true,
		"ExMyR1(yx)":                              false,
		"AxEyR2(xy)":                              true,
		"AxEyR2(yx)":                              false,
		"MxEyR2(yx)":                              true,
		"AxAyAz((R2(xy)&R2(xz))>y=z)":             true,
		"AxAy(R2(xy)>R1(xy))":                     true,
		"AxAy(R1(xy)~(R2(xy)|Ez(R1(xz)&R2(zy))))": true,
		"MxMyx=y":    false,
		"MxMy!x=y":   true,
		"AxMy!x=y":   true,
		"MxAyy=y":    true,
		"MxEyy=x":    true,
		"My!AyMxx=y": true,
	} {
		isDecided(t, prefixes(), f, want, impl.OK)
		isDecided(t, prefixes(), "!"+f, !want, impl.OK)
	}
}

// What formulas without free variables tell depends on the domain, also if the
// variable does not occur.
func TestDecideForDomainsOfAllKinds(t *testing.T) {
	domains := [3][]impl.Relation{
		{nothing(1), padded(nothing(1))},
		{firstWords(2), firstWords(5), padded(firstWords(9))},
		{everything(1), evenA(), circle(5), lasso(2, 1), padded(circle(4))},
	}
	for f, want := range map[string][len(domains)]bool{
		"Exx=x":               {false, true, true},
		"Axx=x":               {true, true, true},
		"Mxx=x":               {false, false, true},
		"Ex!x=x":              {false, false, false},
		"Ax!x=x":              {true, false, false},
		"Mx!x=x":              {false, false, false},
		"ExAyy=y":             {false, true, true},
		"ExAy!y=y":            {false, false, false},
		"AxEyy=y":             {true, true, true},
		"AxAy!y=y":            {true, false, false},
		"AxMyy=y":             {true, false, true},
		"MxAyy=y":             {false, false, true},
		"MxEyy=y":             {false, false, true},
		"MxMyy=y":             {false, false, true},
		"MxAy!y=y":            {false, false, false},
		"ExMyy=y":             {false, false, true},
		"ExExx=x":             {false, true, true},
		"AxExx=x":             {true, true, true},
		"!Exx=x":              {true, false, false},
		"(Exx=x&Mxx=x)":       {false, false, true},
		"(Exx=x|Mxx=x)":       {false, true, true},
		"(Exx=x>Mxx=x)":       {true, false, true},
		"(Exx=x~Mxx=x)":       {true, false, true},
		"(Ax!x=x~Mxx=x)":      {false, true, false},
		"(Ex!x=x>Ex!x=x)":     {true, true, true},
		"Ax(Eyy=y&x=x)":       {true, true, true},
		"Ex(Eyy=y>!x=x)":      {false, false, false},
		"Mx(Myy=y|x=x)":       {false, false, true},
		"Ax(Myy=y>!x=x)":      {true, true, false},
		"Ex(Myy=y~x=x)":       {false, false, true},
		"Ex(Myy=y~!x=x)":      {false, true, false},
		"ExEyx=y":             {false, true, true},
		"AxAy(Ezz=z&x=y)":     {true, false, false},
		"AxEy(Ay!y=y|x=y)":    {true, true, true},
		"AxEz(z=x&Mxx=x)":     {true, false, true},
		"!!!(!Exx=x|!Ax!x=x)": {false, false, false},
	} {
		for kind, list := range domains {
			for _, domain := range list {
				isDecided(t, impl.Presentation{Domain: domain}, f, want[kind], impl.OK)
			}
		}
	}
}

func TestAnswersWithPartsWithoutFreeVariables(t *testing.T) {
	finite := made(t)(impl.RelationOf(1, [][]string{{"b"}, {"ab"}}))
	odd := made(t)(impl.OppositeRelation(evenA()))
	for _, domain := range []impl.Relation{nothing(1), finite, everything(1), padded(odd)} {
		all := made(t)(impl.TidyRelation(domain))
		some, _, many := takenAlone(domain)
		p := impl.Presentation{Domain: domain, Relations: []impl.Relation{evenA()}}
		even := made(t)(impl.BothRelations(domain, evenA()))
		none := nothing(1)
		pick := func(yes bool, one, other impl.Relation) impl.Relation {
			if yes {
				return one
			}
			return other
		}
		for f, want := range map[string]impl.Relation{
			"(Eyy=y&R0(x))":    pick(some, even, none),
			"(R0(x)&Eyy=y)":    pick(some, even, none),
			"(Ay!y=y&R0(x))":   pick(!some, even, none),
			"(Eyy=y|R0(x))":    pick(some, all, even),
			"(R0(x)|Myy=y)":    pick(many, all, even),
			"(R0(x)>Myy=y)":    pick(many, all, made(t)(impl.WithoutRelation(domain, even))),
			"(Myy=y>R0(x))":    pick(many, even, all),
			"(Myy=y~R0(x))":    pick(many, even, made(t)(impl.WithoutRelation(domain, even))),
			"(R0(x)~!Myy=y)":   pick(many, made(t)(impl.WithoutRelation(domain, even)), even),
			"EyR0(x)":          pick(some, even, none),
			"AyR0(x)":          pick(some, even, all),
			"MyR0(x)":          pick(many, even, none),
			"EzMyR0(x)":        pick(many, even, none),
			"AzMyR0(x)":        pick(some, pick(many, even, none), all),
			"Ex(R0(y)&Ax!x=x)": none,
			"(ExR0(x)&R0(x))":  even,
		} {
			got, code := impl.AnswersTo(p, f)
			equal(t, f, code, int64(impl.OK))
			equal(t, f, got, want)
		}
		all2 := made(t)(impl.ProductOf(domain, domain))
		equal(t, "(Axx=x|x=y)", made(t)(impl.AnswersTo(p, "(Axx=x|x=y)")), all2)
		equal(t, "(Ex!x=x&x=y)", made(t)(impl.AnswersTo(p, "(Ex!x=x&x=y)")), nothing(2))
		equal(t, "Mzx=y", made(t)(impl.AnswersTo(p, "Mzx=y")), pick(many, made(t)(impl.AnswersTo(p, "x=y")), nothing(2)))
		equal(t, "(Axx=x|(x=y&y=z))", made(t)(impl.AnswersTo(p, "(Axx=x|(x=y&y=z))")), made(t)(impl.ProductOf(domain, all2)))
	}
}

// Limits are those of the functions of chapter 2 by which answers are found, in
// all parts, also if one of them alone tells enough.
func TestLimitsOfAnswers(t *testing.T) {
	with := func(domain impl.Relation, relations ...impl.Relation) impl.Presentation {
		return impl.Presentation{Domain: domain, Relations: relations}
	}
	longer := impl.Relation{Tapes: 1, Accept: []bool{false, true}, Next: [][]int64{{1, 1}, {1, 1}}}
	added := naiveAdd(behindTwo(73), 1)
	equal(t, "states with a tape added", tidySize(added), impl.MaxStates+1)
	equal(t, "states in the frame", tidySize(naivePairs(added, naiveAdd(longer, 0), takesBoth)), impl.MaxStates)
	for _, c := range []struct {
		name string
		p    impl.Presentation
		f    string
		code int64
	}{
		{"31*31 pairs", with(circle(31)), "!x=x", impl.OK},
		{"32*32 pairs", with(circle(32)), "!x=x", impl.ErrLimit},
		{"150 pairs", with(circle(150)), "x=x", impl.OK},
		{"50*20 pairs", with(circle(50), circle(20)), "R0(x)", impl.OK},
		{"77*13 pairs", with(circle(77), circle(13)), "R0(x)", impl.ErrLimit},
		{"40*25 pairs, 200 states", with(circle(40), circle(25)), "R0(x)", impl.ErrLimit},
		{"7*143 pairs", with(circle(7), circle(143)), "R0(x)", impl.ErrLimit},
		{"no answers, 31*31 pairs", with(circle(31), nothing(1)), "(EyR0(y)&x=x)", impl.OK},
		{"no answers, 32*32 pairs", with(circle(32), nothing(1)), "(EyR0(y)&x=x)", impl.ErrLimit},
		{"no answers, on the other side", with(circle(32), nothing(1)), "(x=x&EyR0(y))", impl.ErrLimit},
		{"the frame", with(circle(150), nothing(1)), "(!EyR0(y)|x=x)", impl.OK},
		{"no element", with(circle(32), nothing(1)), "Ex!R0(x)", impl.OK},
		{"a variable that is not free, infinitely often", with(firstWords(31)), "Myx=x", impl.OK},
		{"two variables", with(circle(4)), "x=y", impl.OK},
		{"too many pairs", with(circle(15)), "x=y", impl.ErrLimit},
		{"an opposite with 31*31 pairs", with(circle(10), everything(2)), "!R0(xy)", impl.OK},
		{"an opposite with 34*34 pairs", with(circle(11), everything(2)), "!R0(xy)", impl.ErrLimit},
		{"three variables, infinitely often", with(everything(1), everything(3)), "MxR0(xyz)", impl.ErrLimit},
		{"three variables, once", with(everything(1), everything(3)), "ExR0(xyz)", impl.OK},
		{"a relation that is not tidied", with(nothing(1), ring(148)), "R0(xy)", impl.ErrLimit},
		{"a relation that is tidied", with(nothing(1), ring(147)), "R0(xy)", impl.OK},
		{"the same variable twice", with(nothing(1), ring(148)), "R0(xx)", impl.OK},
		{"a part that is not needed", with(circle(150), nothing(1)), "(ExR0(x)&!x=x)", impl.ErrLimit},
		{"another one", with(circle(150), nothing(1)), "(!ExR0(x)|!x=x)", impl.ErrLimit},
		{"149 states with a tape added", with(longer, behindTwo(72)), "(R0(x)&y=y)", impl.OK},
		{"151 states with a tape added, 150 in the frame", with(longer, behindTwo(73)), "(R0(x)&y=y)", impl.ErrLimit},
		{"151 states with another tape added", with(longer, behindTwo(73)), "(x=x|R0(z))", impl.ErrLimit},
		{"for all", with(circle(32)), "Axx=x", impl.ErrLimit},
		{"for all, of few", with(circle(31)), "Axx=x", impl.OK},
		{"for infinitely many", with(circle(150)), "Mxx=x", impl.OK},
		{"for some", with(circle(150)), "Exx=x", impl.OK},
		{"decided parts", with(circle(32)), "(Axx=x&Exx=x)", impl.ErrLimit},
		{"decided parts", with(circle(32)), "(Exx=x|Axx=x)", impl.ErrLimit},
	} {
		var code int64
		if free, _ := impl.FreeVariables(c.f); free == "" {
			_, code = impl.Decide(c.p, c.f)
			_, second := impl.IsModelOf(c.p, []string{c.f})
			equal(t, c.name+": IsModelOf", second, code)
			_, second = impl.AreEquivalent(c.p, c.f, c.f)
			equal(t, c.name+": AreEquivalent", second, code)
		} else {
			code = codeOf(impl.AnswersTo(c.p, c.f))
			isLimitOfAll(t, c.p, c.f, code)
		}
		equal(t, c.name+": "+c.f, code, c.code)
	}
}

// behindTwo takes the words of one letter, and those of which the length is two
// more than a multiple of n. It has n+2 states, two of which are met only once.
func behindTwo(n int64) impl.Relation {
	r := circle(n)
	r.Start = n
	r.Accept = append(r.Accept, false, true)
	r.Next = append(r.Next, []int64{n + 1, n + 1}, []int64{0, 0})
	return r
}

// isLimitOfAll looks whether a limit is met by all functions that find answers.
func isLimitOfAll(t *testing.T, p impl.Presentation, f string, code int64) {
	t.Helper()
	if code == impl.OK {
		return
	}
	_, first := impl.FirstAnswer(p, f)
	_, upTo := impl.AnswersUpTo(p, f, -1)
	_, same := impl.AreEquivalent(p, f, f)
	_, apart := impl.FirstApart(p, f, f)
	equal(t, "codes for "+f, []int64{first, upTo, same, apart}, []int64{code, code, code, code})
	if free, _ := impl.FreeVariables(f); len(free) == 1 {
		_, witness := impl.WitnessOf(p, "E"+free+f)
		equal(t, "WitnessOf E"+free+f, witness, code)
	}
}

func TestErrorsOfAnswers(t *testing.T) {
	p := prefixes()
	wrong := impl.Presentation{Domain: everything(2)}
	texts := append(wrongTexts(), "R3(x)", "R0(x)", "ExR1(xyz)", longFormula(impl.MaxFormula+1), strings.Repeat("!", impl.MaxNested+1)+"x=x")
	for _, f := range append(texts, "x=x", "Exx=x", strings.Repeat("(", 100000)) {
		want := int64(impl.ErrSyntax)
		for _, c := range codesFor(wrong, f) {
			equal(t, c.name+" "+f[:min(len(f), 50)], c.results[1], int64(impl.ErrInvalid))
		}
		if f == "x=x" || f == "Exx=x" {
			continue
		}
		for _, c := range codesFor(p, f) {
			equal(t, c.name+" "+f[:min(len(f), 50)], c.results[1], want)
		}
	}
}

// codesFor calls them with some words and lengths.
func codesFor(p impl.Presentation, f string) []call {
	calls := callsForFormula(p, f, f, nil, 0)
	calls = append(calls, callsForFormula(p, f, "x=x", []string{"a"}, 2)...)
	return append(calls, callsForFormula(p, f, "Exx=x", []string{"a", "ab", ""}, -1)...)
}

func TestErrorsOfHoldsAt(t *testing.T) {
	p := impl.Presentation{Domain: evenA(), Relations: []impl.Relation{impl.OrderRelation()}}
	large := impl.Presentation{Domain: circle(32), Relations: []impl.Relation{impl.OrderRelation()}}
	long := strings.Repeat("b", impl.MaxWord)
	for _, c := range []struct {
		p     impl.Presentation
		f     string
		words []string
		yes   bool
		code  int64
	}{
		{p, "R0(xy)", []string{"b", "aa"}, true, impl.OK},
		{p, "R0(yx)", []string{"b", "aa"}, false, impl.OK},
		{p, "R0(zx)", []string{"aa", "b"}, true, impl.OK},
		{p, "x=x", []string{""}, true, impl.OK},
		{p, "z=z", []string{long}, true, impl.OK},
		{p, "z=z", []string{long + "b"}, false, impl.ErrRange},
		{p, "R0(xy)", []string{"b"}, false, impl.ErrRange},
		{p, "R0(xy)", nil, false, impl.ErrRange},
		{p, "R0(xy)", []string{"b", "b", "b"}, false, impl.ErrRange},
		{p, "R0(xx)", []string{"b", "b"}, false, impl.ErrRange},
		{p, "EyR0(xy)", []string{"b", "b"}, false, impl.ErrRange},
		{p, "R0(xy)", []string{"b", "c"}, false, impl.ErrRange},
		{p, "R0(xy)", []string{"a", "c"}, false, impl.ErrRange},
		{p, "R0(xy)", []string{"a", "bb"}, false, impl.ErrNotFound},
		{p, "R0(xy)", []string{"bb", "ab"}, false, impl.ErrNotFound},
		{p, "R0(xy)", []string{"bb", "aa"}, false, impl.OK},
		{p, "ExR0(xx)", nil, false, impl.ErrState},
		{p, "ExEyR0(xy)", []string{"c", "a"}, false, impl.ErrState},
		{p, "ExEyR0(xy)", nil, false, impl.ErrState},
		{large, "!x=x", []string{""}, false, impl.ErrLimit},
		{large, "!x=x", []string{"a"}, false, impl.ErrNotFound},
		{large, "!x=x", []string{"c"}, false, impl.ErrRange},
		{large, "!x=x", nil, false, impl.ErrRange},
		{large, "Ax!x=x", nil, false, impl.ErrState},
	} {
		yes, code := impl.HoldsAt(c.p, c.f, c.words)
		equal(t, "HoldsAt "+c.f+" "+strings.Join(c.words, ","), []any{yes, code}, []any{c.yes, c.code})
	}
}

func TestErrorsOfListedAnswers(t *testing.T) {
	p := prefixes()
	long := impl.Presentation{Domain: everything(1), Relations: []impl.Relation{chain(impl.MaxWord), chain(impl.MaxWord + 1)}}
	first, code := impl.FirstAnswer(long, "R0(x)")
	equal(t, "a first answer of MaxWord letters", []any{first, code}, []any{[]string{strings.Repeat("a", impl.MaxWord)}, int64(impl.OK)})
	first, code = impl.FirstAnswer(long, "R1(x)")
	equal(t, "one letter more", []any{len(first), code}, []any{0, int64(impl.ErrLimit)})
	first, code = impl.FirstAnswer(p, "R1(xx)")
	equal(t, "no first answer", []any{len(first), code}, []any{0, int64(impl.ErrNotFound)})
	first, code = impl.FirstAnswer(p, "ExR1(xx)")
	equal(t, "no free variable", []any{len(first), code}, []any{0, int64(impl.ErrState)})
	few := impl.Presentation{Domain: firstWords(impl.MaxListed), Relations: []impl.Relation{firstWords(impl.MaxListed + 1)}}
	for _, c := range []struct {
		p      impl.Presentation
		f      string
		length int64
		count  int
		code   int64
	}{
		{p, "R0(xy)", 1, 5, impl.OK},
		{p, "R0(xy)", 0, 1, impl.OK},
		{p, "R1(xx)", impl.MaxLength, 0, impl.OK},
		{p, "R0(xy)", -1, 0, impl.ErrRange},
		{p, "R0(xy)", impl.MaxLength + 1, 0, impl.ErrRange},
		{p, "R1(xx)", 1 << 62, 0, impl.ErrRange},
		{p, "x=x", impl.MaxLength, 0, impl.ErrLimit},
		{few, "x=x", impl.MaxLength, impl.MaxListed, impl.OK},
		{impl.Presentation{Domain: few.Relations[0]}, "x=x", impl.MaxLength, 0, impl.ErrLimit},
		{p, "ExEyR0(xy)", -1, 0, impl.ErrState},
		{p, "R0(x)", -1, 0, impl.ErrSyntax},
		{impl.Presentation{}, "x=x", 1, 0, impl.ErrInvalid},
	} {
		list, code := impl.AnswersUpTo(c.p, c.f, c.length)
		equal(t, "AnswersUpTo "+c.f, []any{len(list), code}, []any{c.count, c.code})
	}
}

func TestWitnessOf(t *testing.T) {
	p := prefixes()
	long := impl.Presentation{Domain: everything(1), Relations: []impl.Relation{chain(impl.MaxWord), naiveOpposite(chain(impl.MaxWord)), chain(impl.MaxWord + 1), naiveOpposite(chain(impl.MaxWord + 1))}}
	large := impl.Presentation{Domain: circle(32)}
	for _, c := range []struct {
		p       impl.Presentation
		f, want string
		code    int64
	}{
		{p, "Exx=x", "", impl.OK},
		{p, "ExEyR2(yx)", "a", impl.OK},
		{p, "EyEx(R1(xy)&!R0(xy))", "b", impl.OK},
		{p, "EzEx(R1(xz)&(R0(xz)&!Ey(R2(xy)&R1(yz))))", "a", impl.OK},
		{p, "ExEyEz((R1(yz)&R0(yx))&(R0(zx)&!Ez(R2(yz)&R0(zx))))", "b", impl.OK},
		{p, "AxEyR2(yx)", "", impl.OK},
		{p, "AxEy(R1(yx)&!R0(yx))", "", impl.OK},
		{p, "Ax(Ey(R1(yx)&!R0(yx))|AyR0(xy))", "a", impl.OK},
		{p, "Axx=x", "", impl.ErrNotFound},
		{p, "ExR1(xx)", "", impl.ErrNotFound},
		{p, "AxMyR0(xy)", "", impl.ErrNotFound},
		{p, "ExExx=x", "", impl.ErrState},
		{p, "ExAyy=y", "", impl.ErrState},
		{p, "Exy=y", "", impl.ErrState},
		{p, "ExR0(xy)", "", impl.ErrState},
		{p, "x=x", "", impl.ErrState},
		{p, "!Exx=x", "", impl.ErrState},
		{p, "(Exx=x&Exx=x)", "", impl.ErrState},
		{p, "Mxx=x", "", impl.ErrState},
		{p, "MxAyR0(xy)", "", impl.ErrState},
		{p, "R0(xy)", "", impl.ErrState},
		{long, "ExR0(x)", strings.Repeat("a", impl.MaxWord), impl.OK},
		{long, "AxR1(x)", strings.Repeat("a", impl.MaxWord), impl.OK},
		{long, "ExR2(x)", "", impl.ErrLimit},
		{long, "AxR3(x)", "", impl.ErrLimit},
		{long, "Ez(R2(z)&R0(z))", "", impl.ErrLimit},
		{large, "Exx=x", "", impl.OK},
		{large, "Axx=x", "", impl.ErrLimit},
		{large, "Ex!x=x", "", impl.ErrLimit},
		{large, "Mx!x=x", "", impl.ErrState},
		{impl.Presentation{Domain: nothing(1)}, "Exx=x", "", impl.ErrNotFound},
		{impl.Presentation{Domain: nothing(1)}, "Ax!x=x", "", impl.ErrNotFound},
		{impl.Presentation{Domain: chain(3)}, "Ax!x=x", "aaa", impl.OK},
	} {
		isWitness(t, c.p, c.f, c.want, c.code)
	}
}

// Witnesses are witnesses, and the first ones.
func TestWitnessesAmongFewElements(t *testing.T) {
	d := dice(97)
	seen := map[int64]int{}
	for range 1500 {
		w := fewElements(&d)
		p := w.presentation(listed(t, w.elements))
		part := randomNode(&d, 1+d.below(4), tapesOf(p))
		if len(part.free()) != 1 || len(part.text()) > impl.MaxFormula-2 {
			continue
		}
		for _, letter := range []byte("EA") {
			n := bound(letter, part.free(), part)
			found, code := impl.WitnessOf(p, n.text())
			seen[code]++
			if code == impl.ErrLimit {
				continue
			}
			at := slices.IndexFunc(w.elements, func(element string) bool {
				return w.holds(part, place{element, element, element}) == (letter == 'E')
			})
			if at < 0 {
				equal(t, "WitnessOf "+n.text(), []any{found, code}, []any{"", int64(impl.ErrNotFound)})
			} else {
				equal(t, "WitnessOf "+n.text(), []any{found, code}, []any{w.elements[at], int64(impl.OK)})
			}
			isDecided(t, p, n.text(), (at >= 0) == (letter == 'E'), impl.OK)
		}
	}
	if seen[impl.OK] < 100 || seen[impl.ErrNotFound] < 100 {
		t.Errorf("codes %v, so the test tells little", seen)
	}
}

func TestAreEquivalentAndFirstApart(t *testing.T) {
	p := prefixes()
	long := impl.Presentation{Domain: everything(1), Relations: []impl.Relation{chain(impl.MaxWord), chain(impl.MaxWord + 1), nothing(1)}}
	large := impl.Presentation{Domain: circle(32)}
	for _, c := range []struct {
		p           impl.Presentation
		f, g        string
		same        bool
		code        int64
		first       []string
		codeOfFirst int64
	}{
		{p, "R0(xy)", "(R0(xy)&x=x)", true, impl.OK, nil, impl.ErrNotFound},
		{p, "R1(xy)", "!(R1(yx)|x=y)", true, impl.OK, nil, impl.ErrNotFound},
		{p, "R0(xy)", "R0(yx)", false, impl.OK, []string{"", "a"}, impl.OK},
		{p, "R0(xy)", "(R1(xy)|x=y)", false, impl.OK, []string{"a", "b"}, impl.OK},
		{p, "EyR2(yz)", "z=z", false, impl.OK, []string{""}, impl.OK},
		{p, "R0(xx)", "EyR0(xy)", true, impl.OK, nil, impl.ErrNotFound},
		{p, "R0(xy)", "R0(xz)", false, impl.ErrState, nil, impl.ErrState},
		{p, "R0(xy)", "R0(xx)", false, impl.ErrState, nil, impl.ErrState},
		{p, "x=x", "y=y", false, impl.ErrState, nil, impl.ErrState},
		{p, "x=x", "Exx=x", false, impl.ErrState, nil, impl.ErrState},
		{p, "Exx=x", "x=x", false, impl.ErrState, nil, impl.ErrState},
		{p, "Exx=x", "Ayy=y", true, impl.OK, nil, impl.ErrState},
		{p, "Ex!x=x", "!Ayy=y", true, impl.OK, nil, impl.ErrState},
		{p, "Exx=x", "ExR1(xx)", false, impl.OK, nil, impl.ErrState},
		{p, "x=x", "R0(x)", false, impl.ErrSyntax, nil, impl.ErrSyntax},
		{p, "R0(x)", "x=x", false, impl.ErrSyntax, nil, impl.ErrSyntax},
		{p, "R0(x)", "Exx=x", false, impl.ErrSyntax, nil, impl.ErrSyntax},
		{impl.Presentation{}, "R0(x)", "x=x", false, impl.ErrInvalid, nil, impl.ErrInvalid},
		{long, "R0(x)", "R2(x)", false, impl.OK, []string{strings.Repeat("a", impl.MaxWord)}, impl.OK},
		{long, "R1(x)", "R2(x)", false, impl.OK, nil, impl.ErrLimit},
		{long, "R1(x)", "R1(x)", true, impl.OK, nil, impl.ErrNotFound},
		{large, "!x=x", "x=x", false, impl.ErrLimit, nil, impl.ErrLimit},
		{large, "x=x", "!x=x", false, impl.ErrLimit, nil, impl.ErrLimit},
		{large, "!x=x", "Exx=x", false, impl.ErrState, nil, impl.ErrState},
		{large, "Axx=x", "Exx=x", false, impl.ErrLimit, nil, impl.ErrState},
		{large, "Exx=x", "Axx=x", false, impl.ErrLimit, nil, impl.ErrState},
	} {
		same, code := impl.AreEquivalent(c.p, c.f, c.g)
		equal(t, "AreEquivalent "+c.f+" and "+c.g, []any{same, code}, []any{c.same, c.code})
		first, code := impl.FirstApart(c.p, c.f, c.g)
		equal(t, "FirstApart "+c.f+" and "+c.g, code, c.codeOfFirst)
		equal(t, "FirstApart "+c.f+" and "+c.g, slices.Equal(first, c.first), true)
	}
}

func TestEquivalenceAmongFewElements(t *testing.T) {
	d := dice(101)
	seen := map[bool]int{}
	for range 2500 {
		w := fewElements(&d)
		p := w.presentation(listed(t, w.elements))
		f, g := randomNode(&d, d.below(4), tapesOf(p)), randomNode(&d, d.below(4), tapesOf(p))
		same, code := impl.AreEquivalent(p, f.text(), g.text())
		first, second := impl.FirstApart(p, f.text(), g.text())
		if f.free() != g.free() {
			equal(t, "codes", []int64{code, second}, []int64{impl.ErrState, impl.ErrState})
			continue
		}
		if code != impl.OK {
			equal(t, "a limit", code, int64(impl.ErrLimit))
			continue
		}
		seen[same]++
		if f.free() == "" {
			equal(t, "both hold, or none", same, w.holds(f, place{}) == w.holds(g, place{}))
			equal(t, "FirstApart", second, int64(impl.ErrState))
			continue
		}
		apart := w.answers(with('&', with('|', f, g), not(with('&', f, g))))
		equal(t, "AreEquivalent "+f.text()+" and "+g.text(), same, len(apart) == 0)
		if same {
			equal(t, "FirstApart", second, int64(impl.ErrNotFound))
		} else {
			equal(t, "FirstApart", first, apart[0])
		}
	}
	if seen[true] < 50 || seen[false] < 100 {
		t.Errorf("answers %v, so the test tells little", seen)
	}
}

func TestIsModelOf(t *testing.T) {
	p := prefixes()
	large := impl.Presentation{Domain: circle(32)}
	yes, no := "Axx=x", "ExR1(xx)"
	for _, c := range []struct {
		p    impl.Presentation
		list []string
		at   int64
		code int64
	}{
		{p, nil, -1, impl.OK},
		{p, []string{}, -1, impl.OK},
		{p, []string{yes}, -1, impl.OK},
		{p, []string{no}, 0, impl.OK},
		{p, []string{yes, "AxEyR2(xy)", yes, no, yes}, 3, impl.OK},
		{p, []string{yes, yes, yes, no, no}, 3, impl.OK},
		{p, []string{no, yes}, 0, impl.OK},
		{p, []string{yes, "x=x"}, 0, impl.ErrState},
		{p, []string{yes, "R0(x)", "x=x"}, 0, impl.ErrSyntax},
		{p, []string{yes, "x=x", "R0(x)"}, 0, impl.ErrState},
		{p, []string{yes, no, "x=x", ""}, 1, impl.OK},
		{p, []string{yes, ""}, 0, impl.ErrSyntax},
		{p, []string{"", no}, 0, impl.ErrSyntax},
		{large, []string{"Exx=x", "Axx=x", "x=x"}, 0, impl.ErrLimit},
		{large, []string{"Exx=x", "!Exx=x", "Axx=x"}, 1, impl.OK},
		{impl.Presentation{}, nil, 0, impl.ErrInvalid},
		{impl.Presentation{}, []string{""}, 0, impl.ErrInvalid},
		{impl.Presentation{Domain: everything(2)}, []string{yes}, 0, impl.ErrInvalid},
	} {
		at, code := impl.IsModelOf(c.p, c.list)
		equal(t, "IsModelOf "+strings.Join(c.list, ", "), []any{at, code}, []any{c.at, c.code})
	}
	many := slices.Repeat([]string{yes, "Exx=x"}, 200000)
	at, code := impl.IsModelOf(p, append(many, no))
	equal(t, "many formulas", []any{at, code}, []any{int64(400000), int64(impl.OK)})
}
