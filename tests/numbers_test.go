package tests

import (
	"math"
	"slices"
	"strconv"
	"strings"
	"testing"

	"loop.example/g01168/impl"
)

// wordOf is the word of a number, by its binary digits in reverse.
func wordOf(n int64) string {
	if n == 0 {
		return ""
	}
	digits := []byte(strings.NewReplacer("0", "a", "1", "b").Replace(strconv.FormatInt(n, 2)))
	slices.Reverse(digits)
	return string(digits)
}

func wordsOfNumbers(numbers []int64) []string {
	var words []string
	for _, n := range numbers {
		words = append(words, wordOf(n))
	}
	return words
}

// isNumberWord tells whether a word is that of a number, large or not.
func isNumberWord(w string) bool { return !strings.HasSuffix(w, "a") }

// numberTuples returns all tuples of numbers that are less than n, in order.
func numberTuples(count int, n int64) [][]int64 {
	list := [][]int64{nil}
	for range count {
		var longer [][]int64
		for _, numbers := range list {
			for x := range n {
				longer = append(longer, append(slices.Clone(numbers), x))
			}
		}
		list = longer
	}
	return list
}

// someNumbers are numbers of all sizes.
func someNumbers(d *dice, count int) []int64 {
	var list []int64
	for range count {
		list = append(list, d.below(int64(1)<<(1+d.below(29))))
	}
	return list
}

func TestExamplesOfChapter5(t *testing.T) {
	w, code := impl.NumberWord(6)
	equal(t, "NumberWord", []any{w, code}, []any{"abb", int64(impl.OK)})
	equal(t, "1 + 2 = 3", takes(impl.AddRelation(), []string{"b", "ab", "bb"}), true)
	rests := made(t)(impl.RestSet(3, 1))
	equal(t, "numbers with the rest 1", takenUpTo(rests, 3), [][]string{{"b"}, {"aab"}, {"bbb"}})
	holdsFor(t, "AxEy(R0(yyx)|Ez(R0(yyz)&R1(zx)))", nil, true, impl.OK)
	list, code := impl.SolutionsBelow("R0(xxy)", 5)
	equal(t, "SolutionsBelow", []any{list, code}, []any{[][]int64{{0, 0}, {1, 2}, {2, 4}}, int64(impl.OK)})
	isPeriodOf(t, rests, 5, 0, 3, impl.OK)
}

func isWordOf(t *testing.T, n int64, want string, code int64) {
	t.Helper()
	w, second := impl.NumberWord(n)
	equal(t, "NumberWord", []any{w, second}, []any{want, code})
}

func isNumberOf(t *testing.T, w string, want, code int64) {
	t.Helper()
	n, second := impl.WordNumber(w)
	equal(t, "WordNumber "+w, []any{n, second}, []any{want, code})
}

// Numbers are found again by their words.
func TestNumbersAndTheirWords(t *testing.T) {
	d := dice(201)
	list := append(someNumbers(&d, 500), 0, 1, 2, 3, impl.MaxNumber, impl.MaxNumber-1)
	for i := range 29 {
		list = append(list, 1<<i-1, 1<<i, 1<<i+1)
	}
	for n := range int64(300) {
		list = append(list, n)
	}
	for _, n := range list {
		isWordOf(t, n, wordOf(n), impl.OK)
		isNumberOf(t, wordOf(n), n, impl.OK)
	}
	for n, w := range map[int64]string{0: "", 1: "b", 2: "ab", 3: "bb", 4: "aab", 5: "bab", 6: "abb", 10: "abab", 19: "bbaab"} {
		isWordOf(t, n, w, impl.OK)
		isNumberOf(t, w, n, impl.OK)
	}
}

// All other words are those of no numbers.
func TestWordsOfNoNumbers(t *testing.T) {
	met := map[int64]bool{}
	for _, w := range wordsUpTo(9) {
		if !isNumberWord(w) {
			isNumberOf(t, w, 0, impl.ErrState)
			continue
		}
		n, code := impl.WordNumber(w)
		equal(t, "code of "+w, code, int64(impl.OK))
		equal(t, w+" is the word of another number", met[n] || wordOf(n) != w, false)
		met[n] = true
	}
}

func TestErrorsOfNumbersAndWords(t *testing.T) {
	for _, n := range []int64{-1, -2, impl.MaxNumber + 1, 1 << 40, math.MaxInt64, math.MinInt64} {
		isWordOf(t, n, "", impl.ErrRange)
	}
	for w, code := range map[string]int64{
		"c":                        impl.ErrInvalid,
		"ca":                       impl.ErrInvalid,
		"b ":                       impl.ErrInvalid,
		"B":                        impl.ErrInvalid,
		strings.Repeat("a", 41):    impl.ErrInvalid,
		strings.Repeat("b", 41):    impl.ErrInvalid,
		"a":                        impl.ErrState,
		"ba":                       impl.ErrState,
		strings.Repeat("a", 40):    impl.ErrState,
		strings.Repeat("ba", 20):   impl.ErrState,
		strings.Repeat("b", 40):    impl.ErrRange,
		strings.Repeat("ab", 20):   impl.ErrRange,
		strings.Repeat("b", 30):    impl.ErrRange,
		strings.Repeat("b", 31):    impl.ErrRange,
		wordOf(impl.MaxNumber + 1): impl.ErrRange,
	} {
		isNumberOf(t, w, 0, code)
	}
	isNumberOf(t, strings.Repeat("a", 29)+"b", 1<<29, impl.OK)
}

// numbersAlone is an automaton that takes the tuples of words of numbers. Its states
// tell, as bits, which words have ended with "a" so far.
func numbersAlone(tapes int64) impl.Relation {
	accept := make([]bool, 1<<tapes)
	accept[0] = true
	return madeBy(tapes, accept, func(state int64, digits []int64) int64 {
		for t, digit := range digits {
			switch digit {
			case 0:
				state |= 1 << t
			case 1:
				state &^= 1 << t
			}
		}
		return state
	})
}

func TestNumberDomain(t *testing.T) {
	isMade(t, "NumberDomain", impl.NumberDomain(), impl.OK, numbersAlone(1), 0)
	for _, w := range wordsUpTo(8) {
		if takes(impl.NumberDomain(), []string{w}) != isNumberWord(w) {
			t.Errorf("NumberDomain and %q", w)
		}
	}
	spoil(impl.NumberDomain())
	equal(t, "a further domain", impl.NumberDomain(), relationFrom(t, "relation 1 2 0", "yes 1 0", "no 1 0"))
}

// line is a linear relation that the document tells of.
type line struct {
	kind  int64
	terms []int64
	c     int64
}

func (l line) made() (impl.Relation, int64) { return impl.LinearRelation(l.kind, l.terms, l.c) }

func (l line) holds(numbers []int64) bool {
	sum := int64(0)
	for t, n := range numbers {
		sum += l.terms[t] * n
	}
	return sum == l.c || l.kind == impl.NkAtMost && sum < l.c
}

// left is what is left of the number c behind some columns.
type left struct {
	sum  int64
	dead bool
}

func (l line) behind(at left, digits []int64) left {
	for t, digit := range digits {
		if digit == 1 {
			at.sum -= l.terms[t]
		}
	}
	if at.dead || l.kind == impl.NkEqual && at.sum&1 == 1 {
		return left{dead: true}
	}
	return left{sum: int64(math.Floor(float64(at.sum) / 2))}
}

// automaton is that which the document tells of, before it is made tidy.
func (l line) automaton() impl.Relation {
	tapes := int64(len(l.terms))
	list := []left{{sum: l.c}}
	numbers := map[left]int64{list[0]: 0}
	for i := 0; i < len(list); i++ {
		for column := range columns(tapes) {
			next := l.behind(list[i], digitsOf(tapes, column))
			if _, met := numbers[next]; !met {
				numbers[next] = int64(len(list))
				list = append(list, next)
			}
		}
	}
	var accept []bool
	for _, at := range list {
		accept = append(accept, !at.dead && (at.sum == 0 || l.kind == impl.NkAtMost && at.sum > 0))
	}
	return madeBy(tapes, accept, func(state int64, digits []int64) int64 {
		return numbers[l.behind(list[state], digits)]
	})
}

// pairs is the automaton of pairs that the document tells of, and how many of its
// states count.
func (l line) pairs(t *testing.T) (impl.Relation, int) {
	t.Helper()
	raw := l.automaton()
	if len(raw.Next) > impl.MaxRaw {
		t.Fatalf("%v has %d states", l, len(raw.Next))
	}
	pairs := naivePairs(naiveTidy(raw), naiveTidy(numbersAlone(int64(len(l.terms)))), takesBoth)
	return pairs, len(pairs.Next)
}

// isLinear compares a linear relation with the automaton, and returns whether there
// is a limit.
func isLinear(t *testing.T, l line) bool {
	t.Helper()
	pairs, count := l.pairs(t)
	got, code := l.made()
	size := isMade(t, "LinearRelation", got, code, pairs, count)
	return count > impl.MaxRaw || size > impl.MaxStates
}

// randomLine has terms and numbers of all sizes.
func randomLine(d *dice, tapes int64) line {
	l := line{kind: 1 + d.below(2)}
	for largest := []int64{2, 5, impl.MaxTerm}[d.below(3)]; int64(len(l.terms)) < tapes; {
		l.terms = append(l.terms, d.below(2*largest+1)-largest)
	}
	largest := []int64{3, 60, impl.MaxConstant}[d.below(3)]
	l.c = d.below(2*largest+1) - largest
	return l
}

func TestLinearRelation(t *testing.T) {
	d := dice(203)
	for tapes := int64(1); tapes <= impl.MaxTapes; tapes++ {
		seen := map[bool]int{}
		for range 250 {
			seen[isLinear(t, randomLine(&d, tapes))]++
		}
		if seen[false] < 50 || tapes > 1 && seen[true] < 5 {
			t.Errorf("limits with %d tapes: %v, so the test tells little", tapes, seen)
		}
	}
}

// Linear relations take just the numbers for which sums are as told.
func TestNumbersOfLinearRelations(t *testing.T) {
	d := dice(207)
	taken := 0
	for i := range 300 {
		tapes := int64(1 + i%impl.MaxTapes)
		l := randomLine(&d, tapes)
		r, code := l.made()
		if code != impl.OK {
			continue
		}
		for _, numbers := range numberTuples(int(tapes), []int64{0, 200, 20, 9}[tapes]) {
			isTakenFor(t, l, r, numbers)
			if l.holds(numbers) {
				taken++
			}
		}
		for range 30 {
			numbers := someNumbers(&d, int(tapes))
			isTakenFor(t, l, r, numbers)
			isTakenFor(t, l, r, l.solvedBy(numbers))
		}
	}
	if taken < 1000 {
		t.Errorf("only %d are taken, so the test tells little", taken)
	}
}

func isTakenFor(t *testing.T, l line, r impl.Relation, numbers []int64) {
	t.Helper()
	if takes(r, wordsOfNumbers(numbers)) != l.holds(numbers) {
		t.Fatalf("%v and %v", l, numbers)
	}
}

// solvedBy changes the first number so that the sum is near to what it should be.
func (l line) solvedBy(numbers []int64) []int64 {
	rest := l.c
	for t, n := range numbers[1:] {
		rest -= l.terms[t+1] * n
	}
	if l.terms[0] == 0 || rest/l.terms[0] < 0 {
		return numbers
	}
	return append([]int64{rest / l.terms[0]}, numbers[1:]...)
}

// Words of no numbers are not taken, whatever their digits are.
func TestLinearRelationsTakeOnlyNumbers(t *testing.T) {
	for _, l := range []line{
		{impl.NkEqual, []int64{1}, 1}, {impl.NkAtMost, []int64{1}, 5}, {impl.NkEqual, []int64{0}, 0}, {impl.NkAtMost, []int64{0}, 0}, {impl.NkAtMost, []int64{-1}, 0},
		{impl.NkEqual, []int64{1, -1}, 0}, {impl.NkAtMost, []int64{1, -1}, 2}, {impl.NkEqual, []int64{0, 0}, 0}, {impl.NkAtMost, []int64{0, 0}, 7},
		{impl.NkEqual, []int64{1, 1, -1}, 0}, {impl.NkAtMost, []int64{0, 0, 0}, 0}, {impl.NkAtMost, []int64{-1, -2, -1}, 3},
	} {
		r := made(t)(l.made())
		for _, words := range tuplesOf(wordsUpTo(3), len(l.terms)) {
			var numbers []int64
			for _, w := range words {
				if isNumberWord(w) {
					n, _ := impl.WordNumber(w)
					numbers = append(numbers, n)
				}
			}
			want := len(numbers) == len(words) && l.holds(numbers)
			if takes(r, words) != want {
				t.Errorf("%v and %q: not %v", l, words, want)
			}
		}
	}
}

// Halves are rounded down, also below 0, and terms and numbers may be negative.
func TestLinearRelationsOfFewNumbers(t *testing.T) {
	for _, c := range []struct {
		l     line
		below int64
		want  []int64
	}{
		{line{impl.NkAtMost, []int64{1}, -1}, 40, nil},
		{line{impl.NkAtMost, []int64{1}, 0}, 40, []int64{0}},
		{line{impl.NkAtMost, []int64{1}, 3}, 40, []int64{0, 1, 2, 3}},
		{line{impl.NkAtMost, []int64{2}, 5}, 40, []int64{0, 1, 2}},
		{line{impl.NkAtMost, []int64{-1}, -3}, 7, []int64{3, 4, 5, 6}},
		{line{impl.NkAtMost, []int64{-2}, -3}, 6, []int64{2, 3, 4, 5}},
		{line{impl.NkAtMost, []int64{-3}, -7}, 6, []int64{3, 4, 5}},
		{line{impl.NkAtMost, []int64{-20}, -1000}, 53, []int64{50, 51, 52}},
		{line{impl.NkAtMost, []int64{-20}, -999}, 53, []int64{50, 51, 52}},
		{line{impl.NkAtMost, []int64{20}, 59}, 40, []int64{0, 1, 2}},
		{line{impl.NkAtMost, []int64{20}, 60}, 40, []int64{0, 1, 2, 3}},
		{line{impl.NkAtMost, []int64{0}, -1}, 40, nil},
		{line{impl.NkAtMost, []int64{0}, 0}, 3, []int64{0, 1, 2}},
		{line{impl.NkEqual, []int64{1}, -1}, 40, nil},
		{line{impl.NkEqual, []int64{-1}, -5}, 40, []int64{5}},
		{line{impl.NkEqual, []int64{-3}, -12}, 40, []int64{4}},
		{line{impl.NkEqual, []int64{-3}, 12}, 40, nil},
		{line{impl.NkEqual, []int64{2}, 5}, 40, nil},
		{line{impl.NkEqual, []int64{20}, 1000}, 60, []int64{50}},
		{line{impl.NkEqual, []int64{1}, 1000}, 1010, []int64{1000}},
		{line{impl.NkEqual, []int64{0}, 0}, 4, []int64{0, 1, 2, 3}},
		{line{impl.NkEqual, []int64{0}, 4}, 40, nil},
	} {
		r := made(t)(c.l.made())
		var got []int64
		for n := range c.below {
			if takes(r, []string{wordOf(n)}) {
				got = append(got, n)
			}
		}
		if !slices.Equal(got, c.want) {
			t.Errorf("%v takes %v, not %v", c.l, got, c.want)
		}
	}
}

// The pairs of the states of the tidy automaton and of the frame are limited, and so
// are the states of what is returned. (No automaton has more than MaxRaw states
// before it is made tidy.)
func TestLimitsOfLinearRelations(t *testing.T) {
	for i, want := range []int{2, 9, 27} {
		equal(t, "states of the frame", tidySize(numbersAlone(int64(i+1))), want)
	}
	const equalTo, atMost = impl.NkEqual, impl.NkAtMost
	for _, c := range []struct {
		l           line
		pairs, size int
		code        int64
	}{
		{line{atMost, []int64{-9, 13}, 238}, 720, 150, impl.OK},
		{line{atMost, []int64{16, -7}, -505}, 954, 151, impl.ErrLimit},
		{line{atMost, []int64{-3, -19}, -949}, 999, 149, impl.OK},
		{line{atMost, []int64{12, -5}, -755}, 1008, 150, impl.ErrLimit},
		{line{equalTo, []int64{1, -16}, 626}, 999, 128, impl.OK},
		{line{equalTo, []int64{-1, 15}, -732}, 1008, 128, impl.ErrLimit},
		{line{equalTo, []int64{1, 0, 5}, 27}, 999, 38, impl.OK},
		{line{equalTo, []int64{1, -2, -2}, -10}, 1026, 57, impl.ErrLimit},
		{line{atMost, []int64{-3, 3, -5}, -5}, 999, 100, impl.OK},
		{line{atMost, []int64{-5, -1, 1}, 9}, 1026, 113, impl.ErrLimit},
	} {
		pairs, count := c.l.pairs(t)
		equal(t, "pairs and states", []int{count, tidySize(pairs)}, []int{c.pairs, c.size})
		got, code := c.l.made()
		equal(t, "code", code, c.code)
		isMade(t, "LinearRelation", got, code, pairs, count)
	}
}

func TestErrorsOfLinearRelations(t *testing.T) {
	for _, c := range []struct {
		l    line
		code int64
	}{
		{line{0, []int64{1}, 0}, impl.ErrRange},
		{line{3, []int64{1}, 0}, impl.ErrRange},
		{line{-1, []int64{1}, 0}, impl.ErrRange},
		{line{math.MinInt64, []int64{1}, 0}, impl.ErrRange},
		{line{impl.NkEqual, nil, 0}, impl.ErrRange},
		{line{impl.NkAtMost, []int64{}, 0}, impl.ErrRange},
		{line{impl.NkEqual, []int64{1, 1, 1, 1}, 0}, impl.ErrRange},
		{line{impl.NkEqual, make([]int64, 1000000), 0}, impl.ErrRange},
		{line{impl.NkEqual, []int64{impl.MaxTerm + 1}, 0}, impl.ErrRange},
		{line{impl.NkEqual, []int64{-impl.MaxTerm - 1}, 0}, impl.ErrRange},
		{line{impl.NkAtMost, []int64{1, math.MaxInt64}, 0}, impl.ErrRange},
		{line{impl.NkAtMost, []int64{1, 1, math.MinInt64}, 0}, impl.ErrRange},
		{line{impl.NkEqual, []int64{1}, impl.MaxConstant + 1}, impl.ErrRange},
		{line{impl.NkAtMost, []int64{1}, -impl.MaxConstant - 1}, impl.ErrRange},
		{line{impl.NkAtMost, []int64{1}, math.MaxInt64}, impl.ErrRange},
		{line{impl.NkAtMost, []int64{1}, math.MinInt64}, impl.ErrRange},
		{line{impl.NkAtMost, []int64{-5, -1, 1}, 9}, impl.ErrLimit},
		{line{3, []int64{-5, -1, 1}, 9}, impl.ErrRange},
		{line{impl.NkEqual, []int64{impl.MaxTerm}, impl.MaxConstant}, impl.OK},
		{line{impl.NkEqual, []int64{-impl.MaxTerm}, -impl.MaxConstant}, impl.OK},
		{line{impl.NkAtMost, []int64{impl.MaxTerm, -impl.MaxTerm}, 0}, impl.OK},
		{line{impl.NkAtMost, []int64{-impl.MaxTerm, 0, 0}, impl.MaxTerm}, impl.OK},
	} {
		r, code := c.l.made()
		equal(t, "code", code, c.code)
		if code != impl.OK {
			equal(t, "result", r, impl.Relation{})
		}
	}
}

func TestAddRelationAndLessNumbers(t *testing.T) {
	add := line{impl.NkEqual, []int64{1, 1, -1}, 0}
	less := line{impl.NkAtMost, []int64{1, -1}, -1}
	equal(t, "AddRelation", impl.AddRelation(), made(t)(add.made()))
	equal(t, "LessNumbers", impl.LessNumbers(), made(t)(less.made()))
	for _, l := range []line{add, less} {
		isLinear(t, l)
	}
	d := dice(213)
	sums, before := impl.AddRelation(), impl.LessNumbers()
	isTaken := func(x, y, z int64) {
		equal(t, "a sum is taken", takes(sums, wordsOfNumbers([]int64{x, y, z})), x+y == z)
		equal(t, "a lesser number is taken", takes(before, wordsOfNumbers([]int64{x, z})), x < z)
	}
	for range 2000 {
		numbers := someNumbers(&d, 3)
		x, y := numbers[0], numbers[1]
		for _, z := range []int64{x + y, x + y + 1, x, x + 1, y, numbers[2]} {
			isTaken(x, y, z)
		}
	}
	for _, numbers := range numberTuples(3, 12) {
		isTaken(numbers[0], numbers[1], numbers[2])
	}
	equal(t, "words of no numbers", takes(sums, []string{"a", "b", "b"}), false)
	equal(t, "words of no numbers", takes(before, []string{"a", "b"}), false)
	spoil(impl.AddRelation())
	spoil(impl.LessNumbers())
	equal(t, "further relations", []impl.Relation{impl.AddRelation(), impl.LessNumbers()}, []impl.Relation{made(t)(add.made()), made(t)(less.made())})
}

func TestRestSet(t *testing.T) {
	d := dice(217)
	for m := int64(1); m <= impl.MaxTerm; m++ {
		for rest := range m {
			got, code := impl.RestSet(m, rest)
			want, wanted := impl.LinearRelation(impl.NkEqual, []int64{1, -m}, rest)
			want, wanted = impl.SomeOn(want, 1)
			isToldRelation(t, "RestSet", got, code, want, wanted)
			equal(t, "fault", faultOf(got), "")
			for n := range int64(100) {
				equal(t, "a number with the rest is taken", takes(got, []string{wordOf(n)}), n%m == rest)
			}
			for _, n := range someNumbers(&d, 30) {
				equal(t, "a number with the rest is taken", takes(got, []string{wordOf(n)}), n%m == rest)
			}
			for _, w := range wordsUpTo(4) {
				if !isNumberWord(w) {
					equal(t, "a word of no number is taken", takes(got, []string{w}), false)
				}
			}
		}
	}
	for _, c := range [][2]int64{
		{0, 0}, {-1, 0}, {impl.MaxTerm + 1, 0}, {math.MaxInt64, 3}, {math.MinInt64, 0}, {1, 1}, {1, -1}, {3, 3}, {3, -1}, {impl.MaxTerm, impl.MaxTerm}, {5, math.MaxInt64}, {5, math.MinInt64},
	} {
		r, code := impl.RestSet(c[0], c[1])
		equal(t, "RestSet", []any{r, code}, []any{impl.Relation{}, int64(impl.ErrRange)})
	}
}

func TestNumberSet(t *testing.T) {
	d := dice(219)
	lists := [][]int64{nil, {0}, {impl.MaxNumber}, {3, 3, 3}, {5, 0, 5, 1}, {impl.MaxNumber, 0}, {7, 6, 5, 4, 3, 2, 1, 0}}
	for range 60 {
		lists = append(lists, someNumbers(&d, int(d.below(8))))
	}
	for _, list := range lists {
		r, code := impl.NumberSet(list)
		equal(t, "code", code, int64(impl.OK))
		want, wanted := impl.RelationOf(1, singles(wordsOfNumbers(list)))
		isToldRelation(t, "NumberSet", r, code, want, wanted)
		for _, n := range slices.Concat(list, someNumbers(&d, 10), []int64{0, 1, 2, 3}) {
			equal(t, "a number of the list is taken", takes(r, []string{wordOf(n)}), slices.Contains(list, n))
		}
	}
	upTo := func(n int64) []int64 {
		var list []int64
		for i := range n {
			list = append(list, i)
		}
		return list
	}
	with := func(list []int64, further ...int64) []int64 { return append(slices.Clone(list), further...) }
	for _, c := range []struct {
		name string
		list []int64
		code int64
	}{
		{"as many as there may be", slices.Repeat([]int64{1}, impl.MaxListed), impl.OK},
		{"too many", slices.Repeat([]int64{1}, impl.MaxListed+1), impl.ErrRange},
		{"none below 0", []int64{0, -1}, impl.ErrRange},
		{"a number that is too large", []int64{4, impl.MaxNumber + 1}, impl.ErrRange},
		{"the greatest one", []int64{math.MaxInt64}, impl.ErrRange},
		{"the least one", []int64{math.MinInt64}, impl.ErrRange},
		{"as many letters as there may be", slices.Repeat([]int64{1023}, 100), impl.OK},
		{"a letter too many", with(slices.Repeat([]int64{1023}, 100), 1), impl.ErrLimit},
		{"too many letters, and a number that is too large", with(slices.Repeat([]int64{1023}, 100), 1, impl.MaxNumber+1), impl.ErrRange},
		{"too many letters, in numbers that are too many", slices.Repeat([]int64{1023}, impl.MaxListed+1), impl.ErrRange},
		{"a million", make([]int64, 1000000), impl.ErrRange},
		{"many numbers", upTo(128), impl.OK},
		{"too many states", someNumbers(&d, 60), impl.ErrLimit},
	} {
		r, code := impl.NumberSet(c.list)
		equal(t, c.name, code, c.code)
		want, wanted := impl.RelationOf(1, singles(wordsOfNumbers(slices.DeleteFunc(slices.Clone(c.list), func(n int64) bool { return n < 0 || n > impl.MaxNumber }))))
		if code == impl.ErrRange {
			want = impl.Relation{}
		} else {
			equal(t, c.name+": code of RelationOf", code, wanted)
		}
		equal(t, c.name, r, want)
	}
}

// singles are tuples of one word each.
func singles(words []string) [][]string {
	var list [][]string
	for _, w := range words {
		list = append(list, []string{w})
	}
	return list
}
