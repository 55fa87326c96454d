package tests

import (
	"slices"
	"testing"

	"loop.example/g01168/impl"
)

// Promise 24: what all chapters do together.

// knownInTheEnd returns what all readers know when deeds, and those that are planned
// behind them, have been done.
func knownInTheEnd(t *testing.T, v impl.Shop, deeds []impl.Deed) [][][]string {
	t.Helper()
	plan, code := impl.FinishDeeds(v, deeds)
	equal(t, "plan", code, int64(impl.OK))
	var all [][][]string
	for i := range v.Queries {
		known, done, code := impl.KnownAt(v, slices.Concat(deeds, plan), int64(i))
		equal(t, "in the end", []any{done, code}, []any{true, int64(impl.OK)})
		all = append(all, known)
	}
	return all
}

func isAmong(list [][]string, words []string) bool {
	return slices.ContainsFunc(list, func(other []string) bool { return slices.Equal(other, words) })
}

// isJustWhereItHolds tries all short tuples, of elements and of other words.
func isJustWhereItHolds(t *testing.T, v impl.Shop, f string, known [][]string) {
	t.Helper()
	names, _ := impl.FreeVariables(f)
	longest := min(v.Length, []int64{0, 4, 3, 2}[len(names)])
	for _, words := range allTuples(int64(len(names)), int(longest)) {
		isElement := true
		for _, w := range words {
			isElement = isElement && takes(v.Presentation.Domain, []string{w})
		}
		holds, code := impl.HoldsAt(v.Presentation, f, words)
		against, other := impl.HoldsAt(v.Presentation, "!"+f, words)
		want := int64(impl.OK)
		if !isElement {
			want = impl.ErrNotFound
		}
		equal(t, "HoldsAt "+f, []int64{code, other}, []int64{want, want})
		equal(t, f+" or its opposite holds", holds != against, isElement)
		equal(t, f+" is known just where it holds", isAmong(known, words), holds)
	}
}

// closed returns formulas without free variables: for all, for some, for many.
func closed(f string) []string {
	names, _ := impl.FreeVariables(f)
	var list []string
	for _, sign := range []string{"A", "E", "M"} {
		sentence := f
		for i := len(names) - 1; i >= 0 && (sign != "M" || i == 0); i-- {
			sentence = sign + names[i:i+1] + sentence
		}
		if free, _ := impl.FreeVariables(sentence); free == "" {
			list = append(list, sentence)
		}
	}
	return list
}

func TestReadersKnowJustTheElementsInTheEnd(t *testing.T) {
	d := dice(853)
	for _, s := range someStores() {
		s.shop.Page = max(s.shop.Page, 6)
		for range 3 {
			known := knownInTheEnd(t, s.shop, randomDeeds(&d, d.below(50)))
			for i, f := range s.shop.Queries {
				equal(t, "what is known", plainTuples(known[i]), plainTuples(s.answers(i)))
				isJustWhereItHolds(t, s.shop, f, known[i])
			}
		}
	}
}

func TestSentencesOfShopsOrTheirOpposites(t *testing.T) {
	for _, s := range someStores() {
		p := s.shop.Presentation
		for i, f := range s.shop.Queries {
			for _, sentence := range closed(f) {
				holds, code := impl.Decide(p, sentence)
				against, other := impl.Decide(p, "!"+sentence)
				equal(t, sentence, []any{code, other, holds != against}, []any{int64(impl.OK), int64(impl.OK), true})
				if sentence[0] == 'E' && len(s.answers(i)) > 0 {
					equal(t, sentence, holds, true)
				}
			}
		}
	}
}

// firstPairs has of pairs, for each first word, the one with the first second word.
func firstPairs(pairs [][]string) [][]string {
	var list [][]string
	for _, words := range pairs {
		isFirst := !slices.ContainsFunc(pairs, func(other []string) bool { return other[0] == words[0] && isBefore(other[1], words[1]) })
		if isFirst {
			list = append(list, words)
		}
	}
	return list
}

// Readers of a relation, and of what is chosen of it, know the same first words.
func TestChosenFunctionsInTheEnd(t *testing.T) {
	d := dice(857)
	list := []impl.Relation{impl.OrderRelation(), impl.IsPrefixRelation(), impl.SuccessorRelation(), impl.EqualWords(), everything(2), nothing(2)}
	for range 20 {
		list = append(list, randomRelation(&d, 2, 3))
	}
	for _, r := range list {
		f := made(t)(impl.ChooseFirst(r))
		only, code := impl.IsFunction(f)
		equal(t, "what is chosen is a function, unless that is too large to tell", only, code != impl.ErrLimit)
		inputs, same := made(t)(impl.InputsIn(r)), made(t)(impl.InputsIn(f))
		equal(t, "inputs", impl.SameRelation(inputs, same), true)
		p := impl.Presentation{Domain: everything(1), Relations: []impl.Relation{r, f}}
		v := impl.Shop{Presentation: p, Queries: []string{"R0(xy)", "R1(xy)", "EyR0(xy)", "EyR1(xy)"}, Length: 2, Page: 20}
		known := knownInTheEnd(t, v, randomDeeds(&d, 20))
		equal(t, "the first ones are chosen", plainTuples(known[1]), plainTuples(firstPairs(known[0])))
		equal(t, "the same words have partners", plainTuples(known[3]), plainTuples(known[2]))
		for i, f := range v.Queries {
			isJustWhereItHolds(t, v, f, known[i])
		}
		equivalent, code := impl.AreEquivalent(p, v.Queries[2], v.Queries[3])
		equal(t, "words with partners", []any{equivalent, code}, []any{true, int64(impl.OK)})
	}
}

// Numbers are served as well: those that are the sum of two equal ones.
func TestNumbersInTheEnd(t *testing.T) {
	d := dice(859)
	v := impl.Shop{Presentation: impl.Arithmetic(), Queries: []string{"EyR0(yyx)", "!EyR0(yyx)", "R1(xy)"}, Length: 3, Page: 4}
	known := knownInTheEnd(t, v, randomDeeds(&d, 30))
	var numbers [2][]int64
	for i := range numbers {
		for _, words := range known[i] {
			n, code := impl.WordNumber(words[0])
			equal(t, "code", code, int64(impl.OK))
			numbers[i] = append(numbers[i], n)
		}
		slices.Sort(numbers[i])
	}
	equal(t, "even and odd numbers", numbers, [2][]int64{{0, 2, 4, 6}, {1, 3, 5, 7}})
	equal(t, "pairs of which the first one is less", len(known[2]), 28)
	for _, words := range known[2] {
		less, _ := impl.HoldsFor("R1(xy)", []int64{sumOfDigits(words[0]), sumOfDigits(words[1])})
		equal(t, "less", less, true)
	}
}

func sumOfDigits(w string) int64 {
	sum := int64(0)
	for i := range len(w) {
		sum += int64(w[i]-'a') << i
	}
	return sum
}
