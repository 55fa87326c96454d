package tests

import (
	"testing"

	"loop.example/g01168/impl"
)

// chooser makes the relations of chapter 7 a second way, as automata of any size, and
// sees whether a limit of chapter 2 is met on the way. When one has been met, what
// it makes tells nothing.
type chooser struct{ limited bool }

func (w *chooser) most(count, most int) bool {
	w.limited = w.limited || count > most
	return count <= most
}

// kept is the tidy relation that a function of chapter 2 returns.
func (w *chooser) kept(r impl.Relation) impl.Relation {
	tidy := naiveTidy(r)
	if !w.most(len(tidy.Next), impl.MaxStates) {
		return nothing(r.Tapes)
	}
	return tidy
}

func (w *chooser) put(r, s impl.Relation, take func(p, q bool) bool) impl.Relation {
	left, right := naiveTidy(r), naiveTidy(s)
	if !w.most(len(left.Next)*len(right.Next), impl.MaxRaw) {
		return nothing(r.Tapes)
	}
	return w.kept(naivePairs(left, right, take))
}

func (w *chooser) some(r impl.Relation, tape int64) impl.Relation {
	sets := naiveSets(naiveTidy(r), tape)
	if !w.most(len(sets.Next), impl.MaxRaw) {
		return nothing(r.Tapes - 1)
	}
	return w.kept(sets)
}

func (w *chooser) fixed(r impl.Relation, u string) impl.Relation {
	tidy := naiveTidy(r)
	if !w.most(len(tidy.Next)*(len(u)+1), impl.MaxRaw) {
		return nothing(1)
	}
	return w.kept(naiveFix(tidy, 0, u))
}

func (w *chooser) composed(r, s impl.Relation) impl.Relation {
	return w.some(w.put(naiveAdd(r, 2), naiveAdd(s, 0), takesBoth), 1)
}

func (w *chooser) inputs(r impl.Relation) impl.Relation { return w.some(r, 1) }

func (w *chooser) outputs(r impl.Relation) impl.Relation { return w.some(r, 0) }

func (w *chooser) turned(r impl.Relation) impl.Relation { return w.kept(naiveTurned(r)) }

func (w *chooser) chosen(r impl.Relation) impl.Relation {
	return w.put(r, w.composed(r, naiveOrder()), takesOnly)
}

func (w *chooser) isFunction(r impl.Relation) bool { return takeTheSame(r, w.chosen(r)) }

func (w *chooser) section(f impl.Relation) impl.Relation { return w.chosen(w.turned(f)) }

func (w *chooser) sameImage(f impl.Relation) impl.Relation { return w.composed(f, w.turned(f)) }

func (w *chooser) fixedWords(f impl.Relation) impl.Relation {
	return w.some(w.kept(naiveSame(f, 0, 1)), 1)
}

func (w *chooser) restricted(f, domain impl.Relation) impl.Relation {
	return w.put(f, w.kept(naiveAdd(domain, 1)), takesBoth)
}

func (w *chooser) joined(f, g impl.Relation) impl.Relation {
	others := w.kept(naiveOpposite(w.inputs(f)))
	return w.put(f, w.restricted(g, others), func(p, q bool) bool { return p || q })
}

func takesOnly(p, q bool) bool { return p && !q }

// naiveOrder is the order of words by their lengths, and then letter by letter.
func naiveOrder() impl.Relation {
	const same, before, after, shorter, longer = 0, 1, 2, 3, 4
	return madeBy(2, []bool{false, true, false, true, false}, func(state int64, digits []int64) int64 {
		switch {
		case digits[0] == 2:
			return shorter
		case digits[1] == 2:
			return longer
		case state == same && digits[0] < digits[1]:
			return before
		case state == same && digits[0] > digits[1]:
			return after
		}
		return state
	})
}

// isToldChoice compares what a function has returned with what a chooser has made.
// It returns the number of states that there should be.
func isToldChoice(t *testing.T, name string, got impl.Relation, code int64, w *chooser, want impl.Relation) int {
	t.Helper()
	if w.limited {
		isLimit(t, name, got, code)
		return 0
	}
	return isMade(t, name, got, code, want, 0)
}

// partnersIn lists the partners of a word with at most n letters, in order.
func partnersIn(r impl.Relation, u string, n int) []string {
	var list []string
	for _, w := range wordsUpTo(n) {
		if takes(r, []string{u, w}) {
			list = append(list, w)
		}
	}
	return list
}

// hasPartners tells whether a word has a partner of any length.
func hasPartners(r impl.Relation, u string) bool {
	some, _, _ := takenWith(r, 1, []string{u})
	return some
}

// firstWordIn returns the first word that a relation of one tape takes, of any length,
// and whether there is one.
func firstWordIn(r impl.Relation) (string, bool) {
	words := map[int64]string{r.Start: ""}
	for list := []int64{r.Start}; len(list) > 0; list = list[1:] {
		if r.Accept[list[0]] {
			return words[list[0]], true
		}
		for letter, next := range r.Next[list[0]] {
			if _, met := words[next]; !met {
				words[next] = words[list[0]] + "ab"[letter:letter+1]
				list = append(list, next)
			}
		}
	}
	return "", false
}

// firstIn returns the first partner of a word, of any length, and whether there is one.
func firstIn(r impl.Relation, u string) (string, bool) {
	return firstWordIn(naiveFix(r, 0, u))
}

// someHasTwo tells whether a word has two partners, of any length, by an automaton
// that reads a word and two different partners.
func someHasTwo(r impl.Relation) bool {
	differ := madeBy(3, []bool{false, true}, func(state int64, digits []int64) int64 {
		if digits[1] != digits[2] {
			return 1
		}
		return state
	})
	tidy := naiveTidy(r)
	both := naivePairs(naivePairs(naiveAdd(tidy, 2), naiveAdd(tidy, 1), takesBoth), differ, takesBoth)
	for _, accepts := range placesOf(both).Accept {
		if accepts {
			return true
		}
	}
	return false
}

// byLetters makes a relation of words that are as long as their partners: a function
// tells where two letters lead, or a number below 0 if there is no such pair.
func byLetters(accept []bool, next func(state, in, out int64) int64) impl.Relation {
	dead := int64(len(accept))
	return madeBy(2, append(accept, false), func(state int64, digits []int64) int64 {
		if state == dead || digits[0] == 2 || digits[1] == 2 {
			return dead
		}
		if to := next(state, digits[0], digits[1]); to >= 0 {
			return to
		}
		return dead
	})
}

// flipping exchanges both letters.
func flipping() impl.Relation {
	return byLetters([]bool{true}, func(_, in, out int64) int64 {
		if in == out {
			return -1
		}
		return 0
	})
}

// delaying writes "a", and then always the letter before.
func delaying() impl.Relation {
	return byLetters([]bool{true, true}, func(state, in, out int64) int64 {
		if out != state {
			return -1
		}
		return in
	})
}

// lookingAhead writes always the letter behind, and "a" in the end.
func lookingAhead() impl.Relation {
	const open = 2
	r := byLetters([]bool{true, false, true}, func(state, in, out int64) int64 {
		if state != open && in != state {
			return -1
		}
		return out
	})
	r.Start = open
	return r
}

// addingUp writes whether the number of "b" up to here is odd.
func addingUp() impl.Relation {
	return byLetters([]bool{true, true}, func(state, in, out int64) int64 {
		if out != (state+in)%2 {
			return -1
		}
		return out
	})
}

// lengthening puts a letter behind a word.
func lengthening(letter int64) impl.Relation {
	const open, done, dead = 0, 1, 2
	return madeBy(2, []bool{done: true, dead: false}, func(state int64, digits []int64) int64 {
		switch {
		case state == open && digits[0] == digits[1]:
			return open
		case state == open && digits[0] == 2 && digits[1] == letter:
			return done
		}
		return dead
	})
}

// turnedOver exchanges both tapes of a relation that is made by hand.
func turnedOver(r impl.Relation) impl.Relation { return naiveTidy(naiveTurned(r)) }

// emptying leads each word to the empty one.
func emptying() impl.Relation { return turnedOver(pairsWith(everything(1))) }

// keepingFirst leads each word but the empty one to its first letter.
func keepingFirst() impl.Relation {
	const open, first, dead = 0, 1, 2
	return madeBy(2, []bool{first: true, dead: false}, func(state int64, digits []int64) int64 {
		switch {
		case state == open && digits[0] == digits[1], state == first && digits[1] == 2:
			return first
		}
		return dead
	})
}

// someMap leads some short words to others, or to themselves.
func someMap(t *testing.T, d *dice, letters int) impl.Relation {
	t.Helper()
	words := wordsUpTo(letters)
	var pairs [][]string
	for _, w := range words {
		if d.below(5) > 0 {
			pairs = append(pairs, []string{w, words[d.below(int64(len(words)))]})
		}
	}
	return made(t)(impl.RelationOf(2, pairs))
}

// someFunctions are functions of all kinds, with few states.
func someFunctions(t *testing.T) []impl.Relation {
	t.Helper()
	next := impl.SuccessorRelation()
	list := []impl.Relation{
		impl.EqualWords(), next, inverseOf(t, next), flipping(), delaying(), lookingAhead(), addingUp(), padded(addingUp()), lengthening(0), lengthening(1),
		turnedOver(lengthening(1)), emptying(), keepingFirst(), nothing(2), equalIn(evenA()), twice(3), pairsWith(chain(2)), onlyPairs(t, []string{"a", "b"}),
	}
	d := dice(701)
	for range 12 {
		list = append(list, someMap(t, &d, 2))
	}
	for range 12 {
		list = append(list, naiveScribeRelation(randomScribe(&d, 1+d.below(3))))
	}
	return list
}

// pairsToChoose are relations of two tapes with few states, functions and others.
func pairsToChoose(t *testing.T) []impl.Relation {
	t.Helper()
	list := append(someFunctions(t), knownPairs(t)...)
	d := dice(709)
	for range 30 {
		list = append(list, randomRelation(&d, 2, 1+d.below(3)))
	}
	for range 10 {
		list = append(list, cutOff(randomRelation(&d, 2, 2+d.below(3)), &d))
	}
	return append(list, arrows(t, &d, wordsUpTo(1)), arrows(t, &d, wordsUpTo(2)))
}

// largePairs are ErrLimit now and then, each time for another reason.
func largePairs() []impl.Relation {
	list := []impl.Relation{
		ring(20), ring(148), turning(2, 50), turning(2, 150), evenRing(2, 30), evenRing(2, 49), evenRing(2, 50), twice(12), twice(98), differing(9), sameRest(9),
		pairsWith(circle(25)), pairsWith(circle(80)), turnedOver(pairsWith(circle(80))), branches(6, 31, 32), branches(7, 31, 32), counted(5, 12, 13),
		turnedOver(counted(6, 12, 13)), turnedOver(branches(7, 31, 32)), ring(149), ring(150), equalIn(lasso(1, 37)), equalIn(lasso(1, 147)), lots(60), ends(20), fork(new(dice), 60),
	}
	d := dice(719)
	for range 12 {
		list = append(list, randomRelation(&d, 2, 4+d.below(16)))
	}
	return list
}
