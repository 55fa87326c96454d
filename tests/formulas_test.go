package tests

import (
	"math"
	"slices"
	"strings"
	"testing"

	"loop.example/g01168/impl"
)

// allKinds has a relation of each number of tapes, and one of two tapes more.
func allKinds() impl.Presentation {
	return impl.Presentation{Domain: everything(1), Relations: []impl.Relation{evenA(), impl.OrderRelation(), everything(3), impl.EqualWords()}}
}

func tapesOf(p impl.Presentation) []int64 {
	var tapes []int64
	for _, r := range p.Relations {
		tapes = append(tapes, r.Tapes)
	}
	return tapes
}

func TestValidPresentation(t *testing.T) {
	one, two := evenA(), impl.EqualWords()
	for _, c := range []struct {
		name      string
		domain    impl.Relation
		relations []impl.Relation
		valid     bool
	}{
		{"no relations", one, nil, true},
		{"an empty list", one, []impl.Relation{}, true},
		{"relations of all kinds", one, []impl.Relation{two, one, everything(3)}, true},
		{"an empty domain", nothing(1), nil, true},
		{"a large domain", circle(impl.MaxStates), nil, true},
		{"MaxRelations", one, []impl.Relation{one, two, one, two}, true},
		{"one more", one, []impl.Relation{one, two, one, two, one}, false},
		{"a domain of two tapes", two, nil, false},
		{"a domain of three tapes", everything(3), nil, false},
		{"no domain", impl.Relation{}, nil, false},
		{"a domain that is too large", circle(impl.MaxStates + 1), nil, false},
		{"an empty relation", one, []impl.Relation{two, {}}, false},
		{"a relation that is too large", one, []impl.Relation{circle(impl.MaxStates + 1), two}, false},
	} {
		equal(t, c.name, impl.ValidPresentation(impl.Presentation{Domain: c.domain, Relations: c.relations}), c.valid)
	}
	for _, r := range wrongRelations() {
		equal(t, "a domain that is not valid", impl.ValidPresentation(impl.Presentation{Domain: r}), false)
		for at := range 4 {
			list := slices.Repeat([]impl.Relation{two}, 4)
			list[at] = r
			equal(t, "a relation that is not valid", impl.ValidPresentation(impl.Presentation{Domain: one, Relations: list}), false)
		}
	}
	equal(t, "many relations", impl.ValidPresentation(impl.Presentation{Domain: one, Relations: slices.Repeat([]impl.Relation{one}, 50000)}), false)
}

func TestSamePresentation(t *testing.T) {
	copied := func() impl.Presentation {
		p := allKinds()
		return impl.Presentation{Domain: copyOf(p.Domain), Relations: append(make([]impl.Relation, 0, 9), p.Relations...)}
	}
	equal(t, "the same", impl.SamePresentation(copied(), copied()), true)
	equal(t, "with nothing", impl.SamePresentation(impl.Presentation{}, impl.Presentation{Relations: []impl.Relation{}}), true)
	equal(t, "not valid", impl.SamePresentation(impl.Presentation{Domain: impl.Relation{Tapes: 7}}, impl.Presentation{Domain: impl.Relation{Tapes: 7}}), true)
	for i, change := range []func(p *impl.Presentation){
		func(p *impl.Presentation) { p.Domain.Tapes = 2 },
		func(p *impl.Presentation) { p.Domain.Accept = nil },
		func(p *impl.Presentation) { p.Domain = evenA() },
		func(p *impl.Presentation) { p.Relations = p.Relations[:3] },
		func(p *impl.Presentation) { p.Relations = append(p.Relations, impl.Relation{}) },
		func(p *impl.Presentation) { p.Relations[0], p.Relations[1] = p.Relations[1], p.Relations[0] },
		func(p *impl.Presentation) { p.Relations[2].Start = 1 },
		func(p *impl.Presentation) { p.Relations = nil },
		func(p *impl.Presentation) { p.Domain = padded(p.Domain) },
	} {
		p := copied()
		change(&p)
		if impl.SamePresentation(p, copied()) || impl.SamePresentation(copied(), p) || !impl.SamePresentation(p, p) {
			t.Errorf("change %d is not seen", i)
		}
	}
}

func TestTextsOfFormulas(t *testing.T) {
	for _, c := range []struct {
		text, free string
		nesting    int64
	}{
		{"x=x", "x", 0},
		{"z=y", "yz", 0},
		{"R0(x)", "x", 0},
		{"R9(zyx)", "xyz", 0},
		{"R1(zz)", "z", 0},
		{"R2(yxy)", "xy", 0},
		{"!x=y", "xy", 1},
		{"!!!R0(z)", "z", 3},
		{"(x=x&z=z)", "xz", 1},
		{"(z=z|!x=y)", "xyz", 2},
		{"(Exx=x>y=y)", "y", 2},
		{"((x=x~y=y)~z=z)", "xyz", 2},
		{"Exx=x", "", 1},
		{"Ayx=x", "x", 1},
		{"MzR0(xz)", "x", 1},
		{"ExExx=x", "", 2},
		{"ExAyMzR2(xyz)", "", 3},
		{"(x=x&Exx=x)", "x", 2},
		{"Ex(x=y&Eyx=y)", "y", 3},
		{"(ExR0(xy)&EyR0(xy))", "xy", 2},
		{"!Ex!y=y", "y", 3},
	} {
		free, code := impl.FreeVariables(c.text)
		equal(t, "FreeVariables of "+c.text, []any{free, code}, []any{c.free, int64(impl.OK)})
		nesting, code := impl.NestingOf(c.text)
		equal(t, "NestingOf "+c.text, []any{nesting, code}, []any{c.nesting, int64(impl.OK)})
	}
}

// wrongTexts are no formulas.
func wrongTexts() []string {
	return []string{
		"", " ", "x", "x=", "=x", "xx", "x=x ", " x=x", "x =x", "x=w", "X=x", "x=x\n", "x==x", "x=x=x", "x!=x", "(x=x)", "x=x&x=x",
		"R", "R0", "R0(", "R0()", "R0(x", "R0x", "R(x)", "Rn(x)", "R00(x)", "R10(x)", "R0(xyzx)", "R0(x,y)", "R0(x y)", "R0(w)", "R0(x))", "R-1(x)", "r0(x)", "R0[x]", "R0(x)y",
		"!", "!!", "!x", "!(x=x)", "(", ")", "()", "(x=x&)", "(&x=x)", "(x=x&x=x", "(x=xx=x)", "(x=x&&x=x)", "(x=x&x=x))", "((x=x&x=x)", "(x=x&x=x&x=x)", "(x=x^x=x)", "(x=x->x=x)", "[x=x&x=x]",
		"E", "Ex", "Exx", "Ex=x", "E(x=x&x=x)", "Ex(x=x)", "Ewx=x", "EEx=x", "Exyx=x", "ex x=x", "Ux x=x", "Ex x=x", "Ex.x=x", "∃xx=x", "x=x\x00", "F", "!F", "(F&G)", "EvF",
	}
}

func isNoFormula(t *testing.T, text string) {
	t.Helper()
	free, code := impl.FreeVariables(text)
	equal(t, "FreeVariables of "+text, []any{free, code}, []any{"", int64(impl.ErrSyntax)})
	nesting, code := impl.NestingOf(text)
	equal(t, "NestingOf "+text, []any{nesting, code}, []any{int64(0), int64(impl.ErrSyntax)})
	for _, names := range []string{"zxy", "", "xxx"} {
		renamed, code := impl.RenameFormula(text, names)
		equal(t, "RenameFormula of "+text, []any{renamed, code}, []any{"", int64(impl.ErrSyntax)})
	}
	equal(t, "ValidFormula of "+text, impl.ValidFormula(allKinds(), text), false)
}

func TestTextsThatAreNoFormulas(t *testing.T) {
	for _, text := range wrongTexts() {
		equal(t, text, isFormula(text), false)
		isNoFormula(t, text)
	}
}

func TestRandomTexts(t *testing.T) {
	d := dice(67)
	p := allKinds()
	seen := map[bool]int{}
	for range 4000 {
		n := randomNode(&d, 1+d.below(5), tapesOf(p))
		text := n.text()
		if len(text) > impl.MaxFormula {
			continue
		}
		free, _ := impl.FreeVariables(text)
		equal(t, "FreeVariables of "+text, free, n.free())
		nesting, _ := impl.NestingOf(text)
		equal(t, "NestingOf "+text, nesting, n.depth())
		equal(t, "ValidFormula of "+text, impl.ValidFormula(p, text), true)
		at := int(d.below(int64(len(text))))
		changed := text[:at] + d.oneOf("xyzR0123(&|>~)!EAM=w") + text[at+int(d.below(2)):]
		_, code := impl.NestingOf(changed)
		seen[code == impl.OK]++
		equal(t, "a changed text: "+changed, code == impl.OK, isFormula(changed) && len(changed) <= impl.MaxFormula)
	}
	if seen[true] < 200 || seen[false] < 1000 {
		t.Errorf("%v, so the test tells little", seen)
	}
}

// longFormula has just so many bytes, at least 9, and a small nesting.
func longFormula(bytes int) string {
	marks := (bytes - 3) % 6
	text := longSum((bytes-3-marks)/6 + 1)
	return strings.Repeat("!", marks) + text
}

func longSum(count int) string {
	if count == 1 {
		return "x=x"
	}
	return "(" + longSum(count/2) + "&" + longSum(count-count/2) + ")"
}

func TestLimitsOfFormulas(t *testing.T) {
	for bytes := 190; bytes <= impl.MaxFormula; bytes++ {
		text := longFormula(bytes)
		equal(t, "bytes", len(text), bytes)
		free, code := impl.FreeVariables(text)
		equal(t, "FreeVariables", []any{free, code}, []any{"x", int64(impl.OK)})
		equal(t, "ValidFormula", impl.ValidFormula(allKinds(), text), true)
	}
	for _, text := range []string{longFormula(impl.MaxFormula + 1), longFormula(300), strings.Repeat("!", 1000000) + "x=x", strings.Repeat("(", 1000000)} {
		isNoFormula(t, text)
	}
	for _, mark := range []string{"!", "Ex", "Ay", "Mz"} {
		text := strings.Repeat(mark, impl.MaxNested) + "x=x"
		nesting, code := impl.NestingOf(text)
		equal(t, "NestingOf", []any{nesting, code}, []any{int64(impl.MaxNested), int64(impl.OK)})
		equal(t, "ValidFormula", impl.ValidFormula(allKinds(), text), true)
		isNoFormula(t, mark+text)
	}
	left := strings.Repeat("(", impl.MaxNested) + "x=x" + strings.Repeat("&x=x)", impl.MaxNested)
	right := strings.Repeat("(x=x|", impl.MaxNested) + "x=x" + strings.Repeat(")", impl.MaxNested)
	for _, text := range []string{left, right} {
		equal(t, "ValidFormula", impl.ValidFormula(allKinds(), text), true)
		isNoFormula(t, "!"+text)
		isNoFormula(t, "("+text+"&x=x)")
		isNoFormula(t, "(x=x&"+text+")")
	}
}

func TestRelationsOfFormulas(t *testing.T) {
	p := allKinds()
	for _, c := range []struct {
		text  string
		valid bool
	}{
		{"R0(x)", true}, {"R0(xx)", false}, {"R0(xyz)", false},
		{"R1(xy)", true}, {"R1(xx)", true}, {"R1(x)", false}, {"R1(xyz)", false},
		{"R2(xyz)", true}, {"R2(xxx)", true}, {"R2(x)", false}, {"R2(xy)", false},
		{"R3(xy)", true}, {"R4(xy)", false}, {"R4(x)", false}, {"R9(xyz)", false},
		{"!R4(x)", false}, {"(x=x&R4(x))", false}, {"(R4(x)&x=x)", false}, {"ExR1(x)", false}, {"ExR1(xy)", true},
	} {
		equal(t, c.text, impl.ValidFormula(p, c.text), c.valid)
		_, code := impl.NestingOf(c.text)
		equal(t, c.text+", without relations", code, int64(impl.OK))
		few := impl.Presentation{Domain: everything(1)}
		equal(t, c.text+", with no relation", impl.ValidFormula(few, c.text), false)
		equal(t, c.text+", with a presentation that is not valid", impl.ValidFormula(impl.Presentation{Relations: p.Relations}, c.text), false)
	}
	equal(t, "without relations", impl.ValidFormula(impl.Presentation{Domain: nothing(1)}, "x=y"), true)
}

func TestRenameFormula(t *testing.T) {
	for _, c := range []struct{ text, names, want string }{
		{"R0(xy)", "yzx", "R0(yz)"},
		{"R0(xyz)", "zxy", "R0(zxy)"},
		{"ExAyMz(x=y|!R2(zzx))", "yxz", "EyAxMz(y=x|!R2(zzy))"},
		{"x=x", "xyz", "x=x"},
		{"z=y", "zyx", "x=y"},
	} {
		got, code := impl.RenameFormula(c.text, c.names)
		equal(t, "RenameFormula of "+c.text, []any{got, code}, []any{c.want, int64(impl.OK)})
	}
	for _, names := range []string{"", "x", "xy", "xxy", "xyx", "zzz", "xyzx", "xyz ", "xyw", "XYZ", "abc", "xy\x00", strings.Repeat("xyz", 300000)} {
		got, code := impl.RenameFormula("x=y", names)
		equal(t, "RenameFormula by "+names[:min(9, len(names))], []any{got, code}, []any{"", int64(impl.ErrRange)})
	}
	got, code := impl.RenameFormula(longFormula(impl.MaxFormula), "zyx")
	equal(t, "a long formula", []any{got, code}, []any{strings.ReplaceAll(longFormula(impl.MaxFormula), "x", "z"), int64(impl.OK)})
}

// A formula whose variables are renamed there and back is the same, and its
// answers are those of the formula with their tapes moved.
func TestRenamedFormulas(t *testing.T) {
	d := dice(71)
	for range 300 {
		p := smallPresentation(&d)
		n := randomNode(&d, 3, tapesOf(p))
		for _, order := range ordersOf(3) {
			names, back := make([]byte, 3), make([]byte, 3)
			for i, to := range order {
				names[i], back[to] = byte('x'+to), byte('x'+i)
			}
			renamed, _ := impl.RenameFormula(n.text(), string(names))
			again, _ := impl.RenameFormula(renamed, string(back))
			equal(t, "there and back", again, n.text())
			isMoved(t, p, n, renamed, order)
		}
	}
}

func isMoved(t *testing.T, p impl.Presentation, n node, renamed string, order []int64) {
	t.Helper()
	answers, code := impl.AnswersTo(p, n.text())
	others, second := impl.AnswersTo(p, renamed)
	if code != impl.OK || second != impl.OK {
		return
	}
	free, _ := impl.FreeVariables(renamed)
	equal(t, "as many variables", len(free), len(n.free()))
	var moved []int64
	for _, name := range []byte(n.free()) {
		moved = append(moved, int64(strings.IndexByte(free, byte('x'+order[name-'x']))))
	}
	want, code := impl.MoveTapes(answers, moved)
	if code == impl.OK {
		equal(t, "answers to "+renamed+" and to "+n.text(), others, want)
	}
}

// Whatever the bytes of a text are, it is read or refused.
func TestTextsOfAllBytes(t *testing.T) {
	for b := range math.MaxUint8 + 1 {
		for _, text := range []string{"?", "?=x", "x=?", "R?(x)", "R0?x)", "R0(?)", "R0(x?", "R0(x)?", "!?", "(x=x?y=y)", "?x=x", "E?x=x", "Ex?"} {
			text = strings.Replace(text, "?", string([]byte{byte(b)}), 1)
			_, code := impl.NestingOf(text)
			equal(t, text, code == impl.OK, isFormula(text))
		}
	}
}
