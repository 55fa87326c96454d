package tests

import (
	"math"
	"slices"
	"strings"
	"testing"

	"loop.example/g01168/impl"
)

func numberSet(t *testing.T, numbers ...int64) impl.Relation {
	t.Helper()
	return made(t)(impl.NumberSet(numbers))
}

func rests(t *testing.T, m, rest int64) impl.Relation {
	t.Helper()
	return made(t)(impl.RestSet(m, rest))
}

// hasNumber reads the digits of a number, the lowest one first.
func hasNumber(r impl.Relation, n int64) bool {
	if n < 0 {
		return false
	}
	state := r.Start
	for ; n > 0; n >>= 1 {
		state = r.Next[state][n&1]
	}
	return r.Accept[state]
}

// numbersIn are the numbers of a set that are less than n, in order.
func numbersIn(r impl.Relation, n int64) []int64 {
	var list []int64
	for x := range n {
		if hasNumber(r, x) {
			list = append(list, x)
		}
	}
	return list
}

// spelled takes just some words, which may have more than MaxWord letters.
func spelled(words ...string) impl.Relation {
	r := impl.Relation{Tapes: 1, Accept: []bool{false, false}, Next: [][]int64{{1, 1}, {1, 1}}}
	for _, w := range words {
		state := int64(0)
		for _, letter := range w {
			if r.Next[state][letter-'a'] == 1 {
				r.Next[state][letter-'a'] = int64(len(r.Next))
				r.Accept = append(r.Accept, false)
				r.Next = append(r.Next, []int64{1, 1})
			}
			state = r.Next[state][letter-'a']
		}
		r.Accept[state] = true
	}
	return r
}

// powersOfTwo takes the words of the numbers 1, 2, 4 and so on.
func powersOfTwo() impl.Relation {
	return impl.Relation{Tapes: 1, Accept: []bool{false, true, false}, Next: [][]int64{{0, 1}, {2, 2}, {2, 2}}}
}

// onlyNumbers takes the words of numbers that r takes, in as many states as there
// have to be.
func onlyNumbers(r impl.Relation) impl.Relation {
	return naiveTidy(naivePairs(r, numbersAlone(1), takesBoth))
}

// someSets are sets of numbers of all kinds.
func someSets(t *testing.T) []impl.Relation {
	t.Helper()
	domain := impl.NumberDomain()
	list := []impl.Relation{domain, nothing(1), padded(domain), padded(nothing(1)), powersOfTwo(), padded(powersOfTwo())}
	list = append(list, numberSet(t, 0), numberSet(t, 1), numberSet(t, 0, 1, 2, 3), numberSet(t, 5, 6), numberSet(t, 1, 4), numberSet(t, impl.MaxNumber), numberSet(t, 0, impl.MaxNumber-1))
	list = append(list, butFor(t, domain, []string{""}), butFor(t, domain, []string{"bb"}), butFor(t, rests(t, 3, 1), []string{"aab"}), endingInB(), chain(0))
	list = append(list, rests(t, 1, 0), rests(t, 2, 1), rests(t, 3, 0), rests(t, 5, 3), rests(t, 7, 6), rests(t, 8, 1))
	list = append(list, made(t)(impl.EitherRelation(rests(t, 4, 1), numberSet(t, 2, 11))), made(t)(impl.EitherRelation(rests(t, 6, 1), rests(t, 6, 2))))
	list = append(list, made(t)(impl.LinearRelation(impl.NkAtMost, []int64{-1}, -10)), made(t)(impl.LinearRelation(impl.NkAtMost, []int64{3}, 100)))
	d := dice(231)
	for range 40 {
		list = append(list, onlyNumbers(randomRelation(&d, 1, 1+d.below(5))))
		list = append(list, numberSet(t, slices.Collect(below(&d, 40, d.below(7)))...))
	}
	return list
}

// below gives so many numbers that are less than n.
func below(d *dice, n, count int64) func(yield func(int64) bool) {
	return func(yield func(int64) bool) {
		for range count {
			if !yield(d.below(n)) {
				return
			}
		}
	}
}

// noSets are valid relations that are no sets of numbers.
func noSets(t *testing.T) []impl.Relation {
	t.Helper()
	list := []impl.Relation{everything(1), evenA(), chainsOf("a"), spelled("a"), spelled("b", "ba"), spelled("", "aaaa"), chain(30), everything(2), nothing(2), everything(3), nothing(3)}
	list = append(list, impl.EqualWords(), impl.AddRelation(), impl.LessNumbers(), spelled(strings.Repeat("b", 60)+"a"), listed(t, []string{"", "b", "bba"}))
	return append(list, butFor(t, everything(1), []string{"a"}))
}

func TestIsNumberSet(t *testing.T) {
	check := func(r impl.Relation, want bool, wanted int64) {
		t.Helper()
		is, code := impl.IsNumberSet(r)
		equal(t, "IsNumberSet", []any{is, code}, []any{want, wanted})
	}
	for _, r := range someSets(t) {
		check(r, true, impl.OK)
	}
	for _, r := range noSets(t) {
		code := int64(impl.OK)
		if r.Tapes != 1 {
			code = impl.ErrRange
		}
		check(r, false, code)
	}
	for _, r := range wrongRelations() {
		check(r, false, impl.ErrInvalid)
	}
	d := dice(233)
	seen := map[bool]int{}
	for range 500 {
		r := randomRelation(&d, 1, 1+d.below(5))
		want := takeTheSame(naivePairs(r, naiveOpposite(numbersAlone(1)), takesBoth), nothing(1))
		check(r, want, impl.OK)
		seen[want]++
	}
	if seen[true] < 50 || seen[false] < 50 {
		t.Errorf("sets %v, so the test tells little", seen)
	}
}

func isLeast(t *testing.T, r impl.Relation, want, code int64) {
	t.Helper()
	n, second := impl.LeastNumber(r)
	equal(t, "LeastNumber", []any{n, second}, []any{want, code})
}

func isGreatest(t *testing.T, r impl.Relation, want, code int64) {
	t.Helper()
	n, second := impl.GreatestNumber(r)
	equal(t, "GreatestNumber", []any{n, second}, []any{want, code})
}

// Sets are told by their least and greatest numbers. All words of no circle are
// short enough here to look at all of their numbers.
func TestLeastAndGreatestNumbers(t *testing.T) {
	sets := someSets(t)
	d := dice(237)
	for range 300 {
		list := slices.Collect(below(&d, 1<<(1+d.below(12)), d.below(9)))
		sets = append(sets, onlyNumbers(cutOff(randomRelation(&d, 1, 2+d.below(6)), &d)), numberSet(t, list...))
	}
	seen := map[int64]int{}
	for _, r := range sets {
		numbers := numbersIn(r, 1<<13)
		size, finite := sizeOf(r)
		switch {
		case finite && size == 0:
			isLeast(t, r, 0, impl.ErrNotFound)
			isGreatest(t, r, 0, impl.ErrNotFound)
		case !finite:
			isLeast(t, r, numbers[0], impl.OK)
			isGreatest(t, r, 0, impl.ErrState)
		case int64(len(numbers)) == size:
			isLeast(t, r, numbers[0], impl.OK)
			isGreatest(t, r, numbers[size-1], impl.OK)
			seen[min(size, 3)]++
		}
	}
	if seen[1] < 10 || seen[2] < 10 || seen[3] < 50 {
		t.Errorf("sizes %v, so the test tells little", seen)
	}
}

// The digits of a word are not in the order in which numbers are compared.
func TestLeastAndGreatestNumbersOfKnownSets(t *testing.T) {
	long, longer := strings.Repeat("a", impl.MaxWord-1)+"b", strings.Repeat("a", impl.MaxWord)+"b"
	above := wordOf(impl.MaxNumber + 1)
	endless := func(w string) impl.Relation {
		r := spelled(w)
		r.Next[len(r.Next)-1][1] = int64(len(r.Next) - 1)
		return r
	}
	for _, c := range []struct {
		r               impl.Relation
		least, code     int64
		greatest, other int64
	}{
		{spelled("abb", "bab"), 5, impl.OK, 6, impl.OK},
		{spelled("bbbb", "aaaab"), 15, impl.OK, 16, impl.OK},
		{spelled("babab", "abbab", "bbaab", "aabab"), 19, impl.OK, 22, impl.OK},
		{spelled("", "b"), 0, impl.OK, 1, impl.OK},
		{spelled(""), 0, impl.OK, 0, impl.OK},
		{nothing(1), 0, impl.ErrNotFound, 0, impl.ErrNotFound},
		{impl.NumberDomain(), 0, impl.OK, 0, impl.ErrState},
		{powersOfTwo(), 1, impl.OK, 0, impl.ErrState},
		{spelled(wordOf(impl.MaxNumber)), impl.MaxNumber, impl.OK, impl.MaxNumber, impl.OK},
		{spelled(above), 0, impl.ErrRange, 0, impl.ErrRange},
		{spelled(above, wordOf(impl.MaxNumber)), impl.MaxNumber, impl.OK, 0, impl.ErrRange},
		{spelled(strings.Repeat("b", 30)), 0, impl.ErrRange, 0, impl.ErrRange},
		{spelled(strings.Repeat("b", 29)), 1<<29 - 1, impl.OK, 1<<29 - 1, impl.OK},
		{spelled(long), 0, impl.ErrRange, 0, impl.ErrRange},
		{spelled(strings.Repeat("b", impl.MaxWord)), 0, impl.ErrRange, 0, impl.ErrRange},
		{spelled(longer), 0, impl.ErrLimit, 0, impl.ErrLimit},
		{spelled(longer, long), 0, impl.ErrRange, 0, impl.ErrLimit},
		{spelled(longer, "b"), 1, impl.OK, 0, impl.ErrLimit},
		{spelled(long, "b"), 1, impl.OK, 0, impl.ErrRange},
		{spelled(strings.Repeat("a", 146) + "b"), 0, impl.ErrLimit, 0, impl.ErrLimit},
		{endless(longer), 0, impl.ErrLimit, 0, impl.ErrState},
		{endless(long), 0, impl.ErrRange, 0, impl.ErrState},
		{endless("ab"), 2, impl.OK, 0, impl.ErrState},
	} {
		for _, r := range []impl.Relation{c.r, padded(c.r)} {
			if impl.ValidRelation(r) {
				isLeast(t, r, c.least, c.code)
				isGreatest(t, r, c.greatest, c.other)
			}
		}
	}
}

func isCountBelow(t *testing.T, r impl.Relation, n, want, code int64) {
	t.Helper()
	count, second := impl.CountBelow(r, n)
	equal(t, "CountBelow", []any{count, second}, []any{want, code})
}

func TestCountBelow(t *testing.T) {
	for _, r := range someSets(t) {
		for _, n := range []int64{0, 1, 2, 3, 8, 10, 63, 64, 65, 500, impl.MaxConstant} {
			isCountBelow(t, r, n, int64(len(numbersIn(r, n))), impl.OK)
		}
		for _, n := range []int64{-1, impl.MaxConstant + 1, math.MaxInt64, math.MinInt64} {
			isCountBelow(t, r, n, 0, impl.ErrRange)
		}
	}
	isCountBelow(t, impl.NumberDomain(), impl.MaxConstant, impl.MaxConstant, impl.OK)
	isCountBelow(t, rests(t, 3, 1), 10, 3, impl.OK)
	isCountBelow(t, rests(t, 3, 1), 11, 4, impl.OK)
}

// keepAll makes one call after the other, up to the first error.
func keepAll(steps ...func() (impl.Relation, int64)) (impl.Relation, int64) {
	var r impl.Relation
	for _, next := range steps {
		var code int64
		if r, code = next(); code != impl.OK {
			return impl.Relation{}, code
		}
	}
	return r, impl.OK
}

// toldShift follows the document by calls of functions.
func toldShift(r impl.Relation, by int64) (impl.Relation, int64) {
	pairs, code := impl.LinearRelation(impl.NkEqual, []int64{1, -1}, -by)
	if code != impl.OK {
		return impl.Relation{}, code
	}
	return keepAll(
		func() (impl.Relation, int64) { r, code = impl.AddTape(r, 1); return r, code },
		func() (impl.Relation, int64) { r, code = impl.SameOn(r, 0, 1); return r, code },
		func() (impl.Relation, int64) { r, code = impl.ComposeRelations(r, pairs); return r, code },
		func() (impl.Relation, int64) { return impl.SomeOn(r, 0) },
	)
}

// Shifted sets have just the sums that are not negative.
func TestShiftSet(t *testing.T) {
	seen := map[int64]int{}
	for i, r := range someSets(t) {
		for j, by := range []int64{0, 1, -1, 2, -2, 3, -5, 7, 16, -20, 63, -64, 100, 511, -512, 999, impl.MaxConstant, -impl.MaxConstant} {
			if i > 30 && (i+j)%3 != 0 {
				continue
			}
			got, code := impl.ShiftSet(r, by)
			want, wanted := toldShift(r, by)
			isToldRelation(t, "ShiftSet", got, code, want, wanted)
			seen[code]++
			if code != impl.OK {
				continue
			}
			equal(t, "fault", faultOf(got), "")
			for n := range int64(150) {
				if hasNumber(got, n) != hasNumber(r, n-by) || by > 0 && hasNumber(got, n+by) != hasNumber(r, n) {
					t.Fatalf("%v shifted by %d, at %d", r, by, n)
				}
			}
			is, code := impl.IsNumberSet(got)
			equal(t, "it is a set", []any{is, code}, []any{true, int64(impl.OK)})
		}
	}
	if seen[impl.OK] < 300 || seen[impl.ErrLimit] < 20 {
		t.Errorf("codes %v, so the test tells little", seen)
	}
}

func TestShiftsOfKnownSets(t *testing.T) {
	for _, c := range []struct {
		r    impl.Relation
		by   int64
		want impl.Relation
	}{
		{numberSet(t, 1, 4), -2, numberSet(t, 2)},
		{numberSet(t, 1, 4), -1, numberSet(t, 0, 3)},
		{numberSet(t, 1, 4), -4, numberSet(t, 0)},
		{numberSet(t, 1, 4), -5, nothing(1)},
		{numberSet(t, 1, 4), 0, numberSet(t, 1, 4)},
		{numberSet(t, 1, 4), 10, numberSet(t, 11, 14)},
		{numberSet(t, 0), impl.MaxConstant, numberSet(t, impl.MaxConstant)},
		{numberSet(t, 6), -impl.MaxConstant, nothing(1)},
		{numberSet(t, 70), -64, numberSet(t, 6)},
		{impl.NumberDomain(), -7, impl.NumberDomain()},
		{impl.NumberDomain(), 1, butFor(t, impl.NumberDomain(), []string{""})},
		{rests(t, 3, 1), -1, rests(t, 3, 0)},
		{rests(t, 3, 1), -2, rests(t, 3, 2)},
		{rests(t, 3, 1), -3, rests(t, 3, 1)},
		{rests(t, 3, 1), 3, butFor(t, rests(t, 3, 1), []string{"b"})},
		{nothing(1), 5, nothing(1)},
	} {
		got, code := impl.ShiftSet(c.r, c.by)
		isToldRelation(t, "ShiftSet", got, code, c.want, impl.OK)
	}
}

// toldSum follows the document by calls of functions.
func toldSum(r, s impl.Relation) (impl.Relation, int64) {
	var left, right impl.Relation
	var code int64
	return keepAll(
		func() (impl.Relation, int64) { left, code = impl.AddTape(r, 1); return left, code },
		func() (impl.Relation, int64) { left, code = impl.AddTape(left, 2); return left, code },
		func() (impl.Relation, int64) { right, code = impl.AddTape(s, 0); return right, code },
		func() (impl.Relation, int64) { right, code = impl.AddTape(right, 2); return right, code },
		func() (impl.Relation, int64) { left, code = impl.BothRelations(left, right); return left, code },
		func() (impl.Relation, int64) {
			left, code = impl.BothRelations(left, impl.AddRelation())
			return left, code
		},
		func() (impl.Relation, int64) { left, code = impl.SomeOn(left, 0); return left, code },
		func() (impl.Relation, int64) { return impl.SomeOn(left, 0) },
	)
}

// Sums are those of a number of each of both sets.
func TestSumOfSets(t *testing.T) {
	seen := map[int64]int{}
	sets := someSets(t)
	for i, r := range sets {
		for _, j := range []int{i, 0, 1, 7, (i*5 + 3) % len(sets), (i*11 + 20) % len(sets)} {
			s := sets[j]
			got, code := impl.SumOfSets(r, s)
			want, wanted := toldSum(r, s)
			isToldRelation(t, "SumOfSets", got, code, want, wanted)
			seen[code]++
			if code == impl.OK {
				equal(t, "fault", faultOf(got), "")
				isSumOf(t, got, r, s)
			}
		}
	}
	if seen[impl.OK] < 250 || seen[impl.ErrLimit] < 20 {
		t.Errorf("codes %v, so the test tells little", seen)
	}
}

func isSumOf(t *testing.T, sums, r, s impl.Relation) {
	t.Helper()
	const most = 70
	var want []int64
	others := numbersIn(s, most)
	for n := range int64(most) {
		if slices.ContainsFunc(others, func(y int64) bool { return hasNumber(r, n-y) }) {
			want = append(want, n)
		}
	}
	if got := numbersIn(sums, most); !slices.Equal(got, want) {
		t.Fatalf("sums of %v and %v are %v, not %v", r, s, want, got)
	}
}

func TestSumsOfKnownSets(t *testing.T) {
	domain := impl.NumberDomain()
	for _, c := range []struct{ r, s, want impl.Relation }{
		{numberSet(t, 1, 4), numberSet(t, 1, 4), numberSet(t, 2, 5, 8)},
		{numberSet(t, 0), numberSet(t, 1, 4), numberSet(t, 1, 4)},
		{numberSet(t, 0, 10), numberSet(t, 1, 2), numberSet(t, 1, 2, 11, 12)},
		{nothing(1), domain, nothing(1)},
		{domain, nothing(1), nothing(1)},
		{nothing(1), nothing(1), nothing(1)},
		{domain, domain, domain},
		{domain, numberSet(t, 1), butFor(t, domain, []string{""})},
		{rests(t, 3, 1), rests(t, 3, 1), rests(t, 3, 2)},
		{rests(t, 2, 1), rests(t, 2, 1), butFor(t, rests(t, 2, 0), []string{""})},
	} {
		got, code := impl.SumOfSets(c.r, c.s)
		isToldRelation(t, "SumOfSets", got, code, c.want, impl.OK)
	}
}

// toldAgainst are the numbers that are against a period.
func toldAgainst(r impl.Relation, period int64) (impl.Relation, int64) {
	var one, all, common impl.Relation
	var code int64
	return keepAll(
		func() (impl.Relation, int64) { one, code = impl.ShiftSet(r, -period); return one, code },
		func() (impl.Relation, int64) { all, code = impl.EitherRelation(r, one); return all, code },
		func() (impl.Relation, int64) { common, code = impl.BothRelations(r, one); return common, code },
		func() (impl.Relation, int64) { return impl.WithoutRelation(all, common) },
	)
}

func isPeriodic(t *testing.T, r impl.Relation, from, period int64, want bool, code int64) {
	t.Helper()
	is, second := impl.IsPeriodic(r, from, period)
	if is != want || second != code {
		t.Fatalf("IsPeriodic %v, %d and %d: %v, %d, but it is %v, %d", r, from, period, is, second, want, code)
	}
}

func isPeriodOf(t *testing.T, r impl.Relation, most, from, period, code int64) {
	t.Helper()
	one, two, second := impl.PeriodOf(r, most)
	if one != from || two != period || second != code {
		t.Fatalf("PeriodOf %v and %d: %d, %d, %d, but it is %d, %d, %d", r, most, one, two, second, from, period, code)
	}
}

// A set is periodic if there are no numbers against its period from a number on.
func TestIsPeriodic(t *testing.T) {
	seen := map[any]int{}
	for i, r := range someSets(t) {
		for _, period := range []int64{1, 2, 3, 4, 6, 7, 12, 60, 300, impl.MaxConstant} {
			against, code := toldAgainst(r, period)
			for _, from := range []int64{0, 1, 2, 3, 5, 10, 12, 40, impl.MaxConstant} {
				if i > 30 && (int64(i)+from+period)%4 != 0 {
					continue
				}
				tail := made(t)(impl.LinearRelation(impl.NkAtMost, []int64{-1}, -from))
				left, wanted := keepAll(
					func() (impl.Relation, int64) { return against, code },
					func() (impl.Relation, int64) { return impl.BothRelations(against, tail) },
				)
				want := wanted == impl.OK && takeTheSame(left, nothing(1))
				isPeriodic(t, r, from, period, want, wanted)
				seen[wanted]++
				if wanted == impl.OK {
					seen[want]++
					isPeriodicFor(t, r, from, period, want)
				}
			}
		}
	}
	if seen[int64(impl.OK)] < 500 || seen[int64(impl.ErrLimit)] < 50 || seen[true] < 200 || seen[false] < 200 {
		t.Errorf("codes and answers %v, so the test tells little", seen)
	}
}

// isPeriodicFor looks at numbers. (There are no circles of so many states that the
// first ones against a period have more than 12 letters, but for large numbers.)
func isPeriodicFor(t *testing.T, r impl.Relation, from, period int64, want bool) {
	t.Helper()
	if hasNumber(r, impl.MaxNumber) || hasNumber(r, impl.MaxNumber-1) {
		return
	}
	is := true
	for x := from; x < 1<<12 && is; x++ {
		is = hasNumber(r, x) == hasNumber(r, x+period)
	}
	if is != want {
		t.Fatalf("%v is periodic from %d on with %d: %v", r, from, period, is)
	}
}

func TestPeriodsOfKnownSets(t *testing.T) {
	thirds := rests(t, 3, 1)
	isPeriodic(t, numberSet(t, 1, 4), 5, 7, true, impl.OK)
	isPeriodic(t, numberSet(t, 1, 4), 4, 7, false, impl.OK)
	isPeriodic(t, numberSet(t, 1, 4), 2, 3, false, impl.OK)
	isPeriodic(t, numberSet(t, 1, 4), 0, 3, false, impl.OK)
	isPeriodic(t, thirds, 0, 3, true, impl.OK)
	isPeriodic(t, thirds, 0, 6, true, impl.OK)
	isPeriodic(t, thirds, 0, 1, false, impl.OK)
	isPeriodic(t, thirds, impl.MaxConstant, 4, false, impl.OK)
	isPeriodic(t, nothing(1), 0, impl.MaxConstant, true, impl.OK)
	isPeriodic(t, impl.NumberDomain(), impl.MaxConstant, 1, true, impl.OK)
	isPeriodic(t, numberSet(t, impl.MaxConstant), impl.MaxConstant, 1, false, impl.OK)
	isPeriodic(t, numberSet(t, impl.MaxConstant-1), impl.MaxConstant, 1, true, impl.OK)
	isPeriodic(t, powersOfTwo(), impl.MaxConstant, 1, false, impl.OK)
	isPeriodOf(t, thirds, 5, 0, 3, impl.OK)
	isPeriodOf(t, thirds, 3, 0, 3, impl.OK)
	isPeriodOf(t, thirds, 2, 0, 0, impl.ErrNotFound)
	isPeriodOf(t, butFor(t, thirds, []string{"b"}), 5, 2, 3, impl.OK)
	isPeriodOf(t, butFor(t, thirds, []string{"bbb"}), 5, 8, 3, impl.OK)
	isPeriodOf(t, made(t)(impl.EitherRelation(thirds, numberSet(t, 9))), 5, 10, 3, impl.OK)
	isPeriodOf(t, made(t)(impl.EitherRelation(rests(t, 4, 1), rests(t, 4, 3))), 5, 0, 2, impl.OK)
	isPeriodOf(t, numberSet(t, 1, 4), 2, 5, 1, impl.OK)
	isPeriodOf(t, numberSet(t, 0), 1, 1, 1, impl.OK)
	isPeriodOf(t, nothing(1), impl.MaxTerm, 0, 1, impl.OK)
	isPeriodOf(t, impl.NumberDomain(), impl.MaxTerm, 0, 1, impl.OK)
	isPeriodOf(t, butFor(t, impl.NumberDomain(), []string{""}), 1, 1, 1, impl.OK)
	isPeriodOf(t, powersOfTwo(), impl.MaxTerm, 0, 0, impl.ErrNotFound)
	isPeriodOf(t, rests(t, impl.MaxTerm, 7), impl.MaxTerm, 0, impl.MaxTerm, impl.OK)
	isPeriodOf(t, rests(t, impl.MaxTerm, 7), impl.MaxTerm-1, 0, 0, impl.ErrNotFound)
}

// toldPeriod follows the document by calls of functions.
func toldPeriod(r impl.Relation, most int64) (from, period, code int64) {
	for period = 1; period <= most; period++ {
		against, code := toldAgainst(r, period)
		if code != impl.OK {
			return 0, 0, code
		}
		switch last, code := impl.GreatestNumber(against); code {
		case impl.ErrNotFound:
			return 0, period, impl.OK
		case impl.OK:
			return last + 1, period, impl.OK
		case impl.ErrLimit, impl.ErrRange:
			return 0, 0, code
		}
	}
	return 0, 0, impl.ErrNotFound
}

// The period is the least one, and so is the number from which on it is one.
func TestPeriodOf(t *testing.T) {
	seen := map[int64]int{}
	for i, r := range someSets(t) {
		most := []int64{1, 2, 3, 5, 8, impl.MaxTerm}[i%6]
		from, period, code := toldPeriod(r, most)
		isPeriodOf(t, r, most, from, period, code)
		seen[code]++
		if code != impl.OK {
			continue
		}
		isPeriodOf(t, r, period, from, period, impl.OK)
		for shorter := int64(1); shorter < period; shorter++ {
			isPeriodOf(t, r, shorter, 0, 0, impl.ErrNotFound)
			isPeriodic(t, r, from+100, shorter, false, impl.OK)
		}
		if from <= impl.MaxConstant {
			isPeriodic(t, r, from, period, true, impl.OK)
		}
		if from > 0 && from <= impl.MaxConstant {
			isPeriodic(t, r, from-1, period, false, impl.OK)
		}
	}
	if seen[impl.OK] < 40 || seen[impl.ErrNotFound] < 10 {
		t.Errorf("codes %v, so the test tells little", seen)
	}
}

// Numbers against a period are found only if there are few pairs of states, so those
// of these sets that are too large are limited before they are looked at.
func TestLimitsOfPeriods(t *testing.T) {
	for _, n := range []int64{1<<28 - 1, 1 << 28, 1<<29 - 1, 1 << 29} {
		isPeriodOf(t, numberSet(t, n), 1, n+1, 1, impl.OK)
		isPeriodOf(t, numberSet(t, n), impl.MaxTerm, n+1, 1, impl.OK)
	}
	for _, r := range []impl.Relation{numberSet(t, 1<<29+1), numberSet(t, impl.MaxNumber), spelled(strings.Repeat("a", 30) + "b"), spelled(strings.Repeat("a", impl.MaxWord) + "b")} {
		from, period, code := toldPeriod(r, 1)
		equal(t, "PeriodOf, as it is told", []int64{from, period, code}, []int64{0, 0, impl.ErrLimit})
		isPeriodOf(t, r, 1, 0, 0, impl.ErrLimit)
	}
	large := spelled(strings.Repeat("ab", 37), "bbb", "bbabb")
	isPeriodOf(t, large, 1, 0, 0, impl.ErrLimit)
	isPeriodic(t, large, 0, 1, false, impl.ErrLimit)
	for _, c := range [][3]int64{
		{-1, 1, impl.ErrRange},
		{impl.MaxConstant + 1, 1, impl.ErrRange},
		{0, 0, impl.ErrRange},
		{0, -1, impl.ErrRange},
		{0, impl.MaxConstant + 1, impl.ErrRange},
		{math.MinInt64, 1, impl.ErrRange},
		{0, math.MinInt64, impl.ErrRange},
		{math.MaxInt64, math.MaxInt64, impl.ErrRange},
		{impl.MaxConstant, impl.MaxConstant, impl.OK},
		{0, 1, impl.OK},
	} {
		isPeriodic(t, numberSet(t, 1), c[0], c[1], c[2] == impl.OK && c[0] > 1, c[2])
	}
	for _, most := range []int64{0, -1, impl.MaxTerm + 1, math.MaxInt64, math.MinInt64} {
		isPeriodOf(t, numberSet(t, 1), most, 0, 0, impl.ErrRange)
		isPeriodOf(t, large, most, 0, 0, impl.ErrRange)
	}
}

// The tapes that are added to sets on the way have their limits, also if nothing is
// left.
func TestLimitsOfShiftsAndSums(t *testing.T) {
	none := nothing(1)
	for n, code := range map[int]int64{36: impl.OK, 37: impl.ErrLimit} {
		r := spelled(strings.Repeat("a", n) + "b")
		states := tidySize(naiveAdd(naiveAdd(r, 1), 2))
		equal(t, "there are too many states with two tapes added", states > impl.MaxStates, code == impl.ErrLimit)
		for _, sets := range [][2]impl.Relation{{r, none}, {none, r}} {
			got, second := impl.SumOfSets(sets[0], sets[1])
			want, wanted := toldSum(sets[0], sets[1])
			isToldRelation(t, "SumOfSets", got, second, want, wanted)
			equal(t, "code of SumOfSets", second, code)
		}
	}
	for n, code := range map[int]int64{73: impl.OK, 74: impl.ErrLimit} {
		r := spelled(strings.Repeat("a", n) + "b")
		equal(t, "there are too many states with a tape added", tidySize(naiveAdd(r, 1)) > impl.MaxStates, code == impl.ErrLimit)
		got, second := impl.ShiftSet(r, 0)
		want, wanted := toldShift(r, 0)
		isToldRelation(t, "ShiftSet", got, second, want, wanted)
		equal(t, "code of ShiftSet", second, code)
	}
}

// callsWithSets calls the functions that are given sets of numbers, but for
// IsNumberSet.
func callsWithSets(r, s impl.Relation, n int64) []call {
	var calls []call
	add := func(name string, results ...any) { calls = append(calls, call{name, results}) }
	least, code := impl.LeastNumber(r)
	add("LeastNumber", least, code)
	greatest, code := impl.GreatestNumber(r)
	add("GreatestNumber", greatest, code)
	shifted, code := impl.ShiftSet(r, n)
	add("ShiftSet", shifted, code)
	sums, code := impl.SumOfSets(r, s)
	add("SumOfSets", sums, code)
	count, code := impl.CountBelow(r, n)
	add("CountBelow", count, code)
	is, code := impl.IsPeriodic(r, n, n)
	add("IsPeriodic", is, code)
	from, period, code := impl.PeriodOf(r, n)
	add("PeriodOf", [2]int64{from, period}, code)
	return calls
}

// Relations that are no sets of numbers are told behind those that are not valid, and
// ahead of everything else.
func TestRelationsThatAreNoSetsOfNumbers(t *testing.T) {
	domain := impl.NumberDomain()
	for _, r := range noSets(t) {
		for _, n := range []int64{1, -1, 0, impl.MaxConstant + 1, math.MinInt64} {
			for _, c := range callsWithSets(r, domain, n) {
				equal(t, c.name+" of no set", c.results[1], int64(impl.ErrState))
				equal(t, c.name+" of no set", isZero(c.results[0]), true)
			}
		}
		equal(t, "SumOfSets, second", codeOf(impl.SumOfSets(domain, r)), int64(impl.ErrState))
		for _, wrong := range wrongRelations() {
			equal(t, "SumOfSets, first", codeOf(impl.SumOfSets(wrong, r)), int64(impl.ErrInvalid))
			equal(t, "SumOfSets, second", codeOf(impl.SumOfSets(r, wrong)), int64(impl.ErrInvalid))
		}
	}
	for _, r := range wrongRelations() {
		for _, n := range []int64{1, -1, impl.MaxConstant + 1} {
			for _, c := range callsWithSets(r, domain, n) {
				equal(t, c.name, c.results[1], int64(impl.ErrInvalid))
			}
		}
		equal(t, "SumOfSets, second", codeOf(impl.SumOfSets(domain, r)), int64(impl.ErrInvalid))
	}
	for _, n := range []int64{-impl.MaxConstant - 1, impl.MaxConstant + 1, math.MaxInt64, math.MinInt64} {
		equal(t, "ShiftSet", codeOf(impl.ShiftSet(domain, n)), int64(impl.ErrRange))
	}
}
