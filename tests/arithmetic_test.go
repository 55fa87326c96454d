package tests

import (
	"math"
	"slices"
	"strings"
	"testing"

	"loop.example/g01168/impl"
)

func holdsFor(t *testing.T, f string, numbers []int64, want bool, code int64) {
	t.Helper()
	holds, second := impl.HoldsFor(f, numbers)
	if holds != want || second != code {
		t.Errorf("HoldsFor %s and %v: %v, %d, but it is %v, %d", f, numbers, holds, second, want, code)
	}
}

func TestArithmetic(t *testing.T) {
	want := impl.Presentation{Domain: impl.NumberDomain(), Relations: []impl.Relation{impl.AddRelation(), impl.LessNumbers()}}
	equal(t, "Arithmetic", impl.Arithmetic(), want)
	equal(t, "ValidPresentation", impl.ValidPresentation(impl.Arithmetic()), true)
	spoiled := impl.Arithmetic()
	spoil(spoiled.Domain)
	for _, r := range spoiled.Relations {
		rowsAreApart(t, r)
		spoil(r)
	}
	equal(t, "a further one", impl.Arithmetic(), want)
}

// sayings are formulas with what they say of the numbers of their free variables.
var sayings = []struct {
	f    string
	says func(x []int64) bool
}{
	{"R0(xyz)", func(x []int64) bool { return x[0]+x[1] == x[2] }},
	{"R0(zxy)", func(x []int64) bool { return x[2]+x[0] == x[1] }},
	{"!R0(yzx)", func(x []int64) bool { return x[1]+x[2] != x[0] }},
	{"(R0(xyz)&R1(xy))", func(x []int64) bool { return x[0]+x[1] == x[2] && x[0] < x[1] }},
	{"(R0(xyz)|R1(zx))", func(x []int64) bool { return x[0]+x[1] == x[2] || x[2] < x[0] }},
	{"(R1(xy)&R1(yz))", func(x []int64) bool { return x[0] < x[1] && x[1] < x[2] }},
	{"(R1(yx)>z=x)", func(x []int64) bool { return x[1] >= x[0] || x[2] == x[0] }},
	{"R0(xxy)", func(x []int64) bool { return 2*x[0] == x[1] }},
	{"R0(xyx)", func(x []int64) bool { return x[1] == 0 }},
	{"R0(xyy)", func(x []int64) bool { return x[0] == 0 }},
	{"R0(xxx)", func(x []int64) bool { return x[0] == 0 }},
	{"R1(xy)", func(x []int64) bool { return x[0] < x[1] }},
	{"R1(yx)", func(x []int64) bool { return x[1] < x[0] }},
	{"R1(zz)", func(x []int64) bool { return false }},
	{"!R1(xy)", func(x []int64) bool { return x[0] >= x[1] }},
	{"z=x", func(x []int64) bool { return x[0] == x[1] }},
	{"z=z", func(x []int64) bool { return true }},
	{"EyR0(yyx)", func(x []int64) bool { return x[0]%2 == 0 }},
	{"!ExR0(xxy)", func(x []int64) bool { return x[0]%2 == 1 }},
	{"EyEz(R0(yyz)&R0(zyx))", func(x []int64) bool { return x[0]%3 == 0 }},
	{"EyEz(R0(yyz)&R0(zzx))", func(x []int64) bool { return x[0]%4 == 0 }},
	{"EzR0(xzy)", func(x []int64) bool { return x[0] <= x[1] }},
	{"EzR0(zzy)", func(x []int64) bool { return x[0]%2 == 0 }},
	{"Ez(R0(xyz)&Ey(R0(yyz)&x=x))", func(x []int64) bool { return (x[0]+x[1])%2 == 0 }},
	{"!ExR1(xy)", func(x []int64) bool { return x[0] == 0 }},
	{"MxR1(xy)", func(x []int64) bool { return false }},
	{"MyR1(xy)", func(x []int64) bool { return true }},
	{"MyEzR0(xyz)", func(x []int64) bool { return true }},
	{"MyEzR0(yzx)", func(x []int64) bool { return false }},
	{"Ez(R1(xz)&R1(zy))", func(x []int64) bool { return x[0]+1 < x[1] }},
	{"(R1(xy)&!Ez(R1(xz)&R1(zy)))", func(x []int64) bool { return x[0]+1 == x[1] }},
	{"Az(R1(zx)>R1(zy))", func(x []int64) bool { return x[0] <= x[1] }},
	{"Ay(R1(yx)>EzR0(zzy))", func(x []int64) bool { return x[0] <= 1 }},
	{"AzEy(R0(xyz)|R1(zx))", func(x []int64) bool { return true }},
	{"(EzR0(zzx)~EzR0(zzy))", func(x []int64) bool { return x[0]%2 == x[1]%2 }},
	{"(EzR0(zzx)>R1(xy))", func(x []int64) bool { return x[0]%2 == 1 || x[0] < x[1] }},
	{"Ez(R0(zzx)&EyR0(yyz))", func(x []int64) bool { return x[0]%4 == 0 }},
	{"(Axx=x&R1(yz))", func(x []int64) bool { return x[0] < x[1] }},
	{"(R0(xxx)|Ey(R1(xy)&MzR1(zy)))", func(x []int64) bool { return x[0] == 0 }},
}

// Formulas hold as numbers tell.
func TestHoldsForNumbers(t *testing.T) {
	d := dice(223)
	for _, s := range sayings {
		free, code := impl.FreeVariables(s.f)
		equal(t, "code", code, int64(impl.OK))
		list := numberTuples(len(free), []int64{0, 14, 6, 4}[len(free)])
		for range 8 {
			numbers := someNumbers(&d, len(free))
			list = append(list, numbers)
			if len(free) > 1 {
				x, y := numbers[0]/2, numbers[1]/2
				list = append(list, append([]int64{x, 2 * x, x + y}[:len(free)-1], x+y), append([]int64{x, x + 1, y}[:len(free)-1], x+1))
			}
		}
		list = append(list, slices.Repeat([]int64{impl.MaxNumber}, len(free)), slices.Repeat([]int64{1 << 29}, len(free)))
		for _, numbers := range list {
			holdsFor(t, s.f, numbers, s.says(numbers), impl.OK)
		}
	}
}

func TestSentencesOfArithmetic(t *testing.T) {
	for f, want := range map[string]bool{
		"AxEy(R0(yyx)|Ez(R0(yyz)&R1(zx)))":  true,
		"AxEyR1(xy)":                        true,
		"AxEyR1(yx)":                        false,
		"ExAy!R1(yx)":                       true,
		"ExAyR1(xy)":                        false,
		"ExAy(R1(xy)|x=y)":                  true,
		"AxAy(R1(xy)|(R1(yx)|x=y))":         true,
		"AxAyAz((R1(xy)&R1(yz))>R1(xz))":    true,
		"AxAyEzR0(xyz)":                     true,
		"AxAyEzR0(xzy)":                     false,
		"AxAy(R1(xy)>EzR0(xzy))":            true,
		"AxAy(R1(xy)~Ez(R0(xzy)&!R0(zzz)))": true,
		"AxAyAz(R0(xyz)>R0(yxz))":           true,
		"AxAyAz(R0(xyz)>!R1(zx))":           true,
		"AxAyAz(R0(xyz)>R1(xz))":            false,
		"AxAy(Ez(R0(xxz)&R0(yyz))>x=y)":     true,
		"AxEyR0(yyx)":                       false,
		"AxEyR0(xxy)":                       true,
		"MxEyR0(yyx)":                       true,
		"Mx!EyR0(yyx)":                      true,
		"AxMyEz(R0(zzy)&R1(xz))":            true,
		"MxAyR1(yx)":                        false,
		"ExMyR1(yx)":                        false,
		"AxMyR1(xy)":                        true,
		"Mx(R0(xxx)|Ey(R0(yyx)&R1(yx)))":    true,
		"Mx(R0(xxx)|R1(xx))":                false,
		"Ax(EyR0(yyx)|EyEz(R0(yyz)&(R1(zx)&!Ey(R1(zy)&R1(yx)))))":    true,
		"ExEyEz(R0(xyz)&(R1(zx)|R1(zy)))":                            false,
		"AxEyEz(R0(yyz)&(x=z|(R1(zx)&!Ey(R1(zy)&R1(yx)))))":          true,
		"Ex((EyR0(yyx)&EyEz(R0(yyz)&R0(yzx)))&!Ey(R1(yx)&!R0(yyy)))": true,
	} {
		holdsFor(t, f, nil, want, impl.OK)
		holdsFor(t, "!"+f, nil, !want, impl.OK)
		isDecided(t, impl.Arithmetic(), f, want, impl.OK)
	}
}

// isToldFor compares HoldsFor with what the document tells of a formula by its answers,
// and with what is returned for its opposite.
func isToldFor(t *testing.T, d *dice, p impl.Presentation, n node) int64 {
	t.Helper()
	w := &teller{p: p}
	want := w.tell(n)
	if want.names == "" {
		holdsFor(t, n.text(), nil, want.holds && w.code == impl.OK, w.code)
		if opposite, code := impl.HoldsFor(not(n).text(), []int64{}); w.code == impl.OK {
			equal(t, "the opposite of "+n.text(), []any{opposite, code}, []any{!want.holds, int64(impl.OK)})
		}
		return w.code
	}
	for range 4 {
		numbers := someNumbers(d, len(want.names))
		if d.below(2) == 0 {
			numbers = numberTuples(len(want.names), 3)[d.below(3)]
		}
		holds := w.code == impl.OK && takes(want.answers, wordsOfNumbers(numbers))
		holdsFor(t, n.text(), numbers, holds, w.code)
		if opposite, code := impl.HoldsFor(not(n).text(), numbers); code == impl.OK && w.code == impl.OK {
			equal(t, "the opposite of "+n.text(), opposite, !holds)
		}
	}
	return w.code
}

func TestHoldsForAsTold(t *testing.T) {
	d := dice(227)
	p := impl.Arithmetic()
	seen := map[int64]int{}
	for range 400 {
		n := randomNode(&d, 1+d.below(4), tapesOf(p))
		if len(n.text()) >= impl.MaxFormula {
			continue
		}
		seen[isToldFor(t, &d, p, n)]++
		if t.Failed() {
			t.FailNow()
		}
	}
	if seen[impl.OK] < 150 || seen[impl.ErrLimit] < 10 {
		t.Errorf("codes %v, so the test tells little", seen)
	}
}

// Formulas of numbers hold as their parts do.
func TestFormulasOfNumbersAsOfTheirParts(t *testing.T) {
	d := dice(229)
	p := impl.Arithmetic()
	seen := map[byte]int{}
	for range 250 {
		n := randomNode(&d, 1+d.below(3), tapesOf(p))
		if len(n.text()) <= impl.MaxFormula && len(n.parts) > 0 && isAsItsParts(t, p, n) {
			seen[n.kind]++
		}
	}
	for _, kind := range []byte("!&|>~EAM") {
		if seen[kind] < 5 {
			t.Errorf("%q is seen %d times, so the test tells little", kind, seen[kind])
		}
	}
}

// noFormulasOfNumbers are no formulas for Arithmetic.
func noFormulasOfNumbers() []string {
	return []string{
		"", "x", "R0", "R0(xy)", "R0(x)", "R1(x)", "R1(xyz)", "R2(x)", "R2(xy)", "R3(xyz)", "R9(xy)", "x=1", "x<y", "x+y=z", "R0(xyz", "R0(xyz))", "(R1(xy))", "AxR1(xy)R1(xy)", "Ew w=w",
		"(x=x&R2(x))", "Ex", "u=v", strings.Repeat("!", impl.MaxNested+1) + "x=x", strings.Repeat("!", impl.MaxFormula) + "x=x", "R1(xy)\n", " R1(xy)", "\xff",
	}
}

func TestErrorsOfHoldsFor(t *testing.T) {
	for _, f := range noFormulasOfNumbers() {
		for _, numbers := range [][]int64{nil, {1}, {1, 2}, {-1, 2}} {
			holdsFor(t, f, numbers, false, impl.ErrSyntax)
		}
	}
	for _, c := range []struct {
		f       string
		numbers []int64
		holds   bool
		code    int64
	}{
		{"R1(xy)", nil, false, impl.ErrRange},
		{"R1(xy)", []int64{1}, false, impl.ErrRange},
		{"R1(xy)", []int64{1, 2, 3}, false, impl.ErrRange},
		{"R1(xy)", []int64{-1, 2}, false, impl.ErrRange},
		{"R1(xy)", []int64{1, impl.MaxNumber + 1}, false, impl.ErrRange},
		{"R1(xy)", []int64{impl.MaxNumber - 1, impl.MaxNumber}, true, impl.OK},
		{"R1(xy)", []int64{0, math.MaxInt64}, false, impl.ErrRange},
		{"R1(xy)", []int64{math.MinInt64, 0}, false, impl.ErrRange},
		{"R1(xy)", make([]int64, 1000000), false, impl.ErrRange},
		{"EyR1(xy)", []int64{1, 2}, false, impl.ErrRange},
		{"EyR1(xy)", []int64{impl.MaxNumber}, true, impl.OK},
		{"Exx=x", []int64{0}, false, impl.ErrRange},
		{"Exx=x", []int64{-1}, false, impl.ErrRange},
		{"Exx=x", []int64{}, true, impl.OK},
		{"MyR0(xyz)", []int64{1}, false, impl.ErrRange},
		{"MyR0(xyz)", []int64{1, -1}, false, impl.ErrRange},
		{"MyR0(xyz)", []int64{1, 2}, false, impl.ErrLimit},
		{"ExEzMyR0(xyz)", []int64{1}, false, impl.ErrRange},
		{"ExEzMyR0(xyz)", nil, false, impl.ErrLimit},
		{"(Exx=x|ExEzMyR0(xyz))", nil, false, impl.ErrLimit},
		{strings.Repeat("!", impl.MaxNested) + "R1(xy)", []int64{1, 2}, true, impl.OK},
	} {
		holdsFor(t, c.f, c.numbers, c.holds, c.code)
	}
}

func isSolvedBy(t *testing.T, f string, n int64, want [][]int64, code int64) {
	t.Helper()
	list, second := impl.SolutionsBelow(f, n)
	if second != code || !slices.EqualFunc(list, want, slices.Equal[[]int64]) {
		t.Errorf("SolutionsBelow %s and %d: %v, %d, but they are %v, %d", f, n, list, second, want, code)
	}
}

// Solutions are all numbers less than n for which formulas say what they say.
func TestSolutionsBelow(t *testing.T) {
	seen := map[int64]int{}
	for _, s := range sayings {
		free, _ := impl.FreeVariables(s.f)
		for _, n := range []int64{0, 1, 2, 3, 6, 9, 16, 17} {
			var want [][]int64
			for _, numbers := range numberTuples(len(free), n) {
				if s.says(numbers) {
					want = append(want, numbers)
				}
			}
			code := int64(impl.OK)
			if len(want) > impl.MaxListed {
				want, code = nil, impl.ErrLimit
			}
			isSolvedBy(t, s.f, n, want, code)
			seen[code]++
		}
	}
	if seen[impl.OK] < 100 || seen[impl.ErrLimit] < 10 {
		t.Errorf("codes %v, so the test tells little", seen)
	}
}

func TestLimitsOfSolutions(t *testing.T) {
	var doubles, all, noLess, sums [][]int64
	for x := range int64(impl.MaxBelow) {
		if all = append(all, []int64{x}); 2*x < impl.MaxBelow {
			doubles = append(doubles, []int64{x, 2 * x})
		}
	}
	for x := range int64(24) {
		for y := range x + 1 {
			noLess = append(noLess, []int64{x, y})
		}
		for y := range 24 - x {
			sums = append(sums, []int64{x, y, x + y})
		}
	}
	isSolvedBy(t, "R0(xxy)", impl.MaxBelow, doubles, impl.OK)
	isSolvedBy(t, "x=x", impl.MaxBelow, all, impl.OK)
	isSolvedBy(t, "x=x", impl.MaxBelow-1, all[:impl.MaxBelow-1], impl.OK)
	equal(t, "solutions", []int{len(noLess), len(sums)}, []int{impl.MaxListed, impl.MaxListed})
	isSolvedBy(t, "!R1(xy)", 24, noLess, impl.OK)
	isSolvedBy(t, "!R1(xy)", 25, nil, impl.ErrLimit)
	isSolvedBy(t, "R0(xyz)", 24, sums, impl.OK)
	isSolvedBy(t, "R0(xyz)", 25, nil, impl.ErrLimit)
	oneMore := "(!R1(xy)|(R0(xxx)&(R1(xy)&!Ez(R1(xz)&R1(zy)))))"
	isSolvedBy(t, oneMore, 24, nil, impl.ErrLimit)
	isSolvedBy(t, oneMore, 2, [][]int64{{0, 0}, {0, 1}, {1, 0}, {1, 1}}, impl.OK)
	isSolvedBy(t, "(z=z&(x=x|y=y))", impl.MaxBelow, nil, impl.ErrLimit)
	isSolvedBy(t, "!(z=z&(x=x|y=y))", impl.MaxBelow, nil, impl.OK)
	isSolvedBy(t, "(R0(xyz)&(R1(zx)|R1(zy)))", impl.MaxBelow, nil, impl.OK)
}

func TestErrorsOfSolutions(t *testing.T) {
	for _, f := range noFormulasOfNumbers() {
		for _, n := range []int64{-1, 5, impl.MaxBelow + 1} {
			isSolvedBy(t, f, n, nil, impl.ErrSyntax)
		}
	}
	for _, f := range []string{"Exx=x", "ExEzMyR0(xyz)", "AxEyR1(yx)"} {
		for _, n := range []int64{-1, 0, 5, impl.MaxBelow + 1} {
			isSolvedBy(t, f, n, nil, impl.ErrState)
		}
	}
	for _, f := range []string{"x=x", "MyR0(xyz)"} {
		for _, n := range []int64{-1, impl.MaxBelow + 1, math.MaxInt64, math.MinInt64} {
			isSolvedBy(t, f, n, nil, impl.ErrRange)
		}
	}
	isSolvedBy(t, "MyR0(xyz)", 5, nil, impl.ErrLimit)
	isSolvedBy(t, "MyR0(xyz)", 0, nil, impl.ErrLimit)
	isSolvedBy(t, "x=x", 0, nil, impl.OK)
	isSolvedBy(t, "x=x", 1, [][]int64{{0}}, impl.OK)
}

func TestSolutionsShareNoMemory(t *testing.T) {
	list, _ := impl.SolutionsBelow("R0(xxy)", 5)
	for i := range list {
		_ = append(list[i], 77)
		list[i][0] = 77
	}
	equal(t, "solutions", list, [][]int64{{77, 0}, {77, 2}, {77, 4}})
	isSolvedBy(t, "R0(xxy)", 5, [][]int64{{0, 0}, {1, 2}, {2, 4}}, impl.OK)
}
