package tests

import (
	"encoding/binary"
	"slices"
	"testing"

	"loop.example/g01168/impl"
)

// The automata that the document tells of in chapter 2, made word by word, of
// any size. As the other helpers, they use nothing of the program but its types.

// digitsOf returns 0, 1 or 2 for the letter "a", "b" or the pad on each tape.
func digitsOf(tapes, column int64) []int64 {
	var digits []int64
	for range tapes {
		digits = append(digits, column%3)
		column /= 3
	}
	return digits
}

func columnOf(digits []int64) int64 {
	column := int64(0)
	for t := len(digits) - 1; t >= 0; t-- {
		column = 3*column + digits[t]
	}
	return column
}

func isPads(digits []int64) bool {
	return !slices.ContainsFunc(digits, func(d int64) bool { return d != 2 })
}

func inserted[T any](list []T, at int64, x T) []T {
	return slices.Insert(slices.Clone(list), int(at), x)
}

func without[T any](list []T, at int64) []T {
	return slices.Delete(slices.Clone(list), int(at), int(at)+1)
}

// madeBy makes an automaton by a function that tells where digits lead.
func madeBy(tapes int64, accept []bool, next func(state int64, digits []int64) int64) impl.Relation {
	r := impl.Relation{Tapes: tapes, Accept: accept}
	for s := range accept {
		row := make([]int64, columns(tapes))
		for c := range row {
			row[c] = next(int64(s), digitsOf(tapes, int64(c)))
		}
		r.Next = append(r.Next, row)
	}
	return r
}

func naiveOpposite(r impl.Relation) impl.Relation {
	s := copyOf(r)
	for i := range s.Accept {
		s.Accept[i] = !s.Accept[i]
	}
	return s
}

func naivePairs(r, s impl.Relation, take func(p, q bool) bool) impl.Relation {
	n := int64(len(s.Next))
	var accept []bool
	for _, p := range r.Accept {
		for _, q := range s.Accept {
			accept = append(accept, take(p, q))
		}
	}
	pairs := madeBy(r.Tapes, accept, func(state int64, digits []int64) int64 {
		c := columnOf(digits)
		return r.Next[state/n][c]*n + s.Next[state%n][c]
	})
	pairs.Start = r.Start*n + s.Start
	return pairs
}

func naiveAdd(r impl.Relation, at int64) impl.Relation {
	s := madeBy(r.Tapes+1, slices.Clone(r.Accept), func(state int64, digits []int64) int64 {
		rest := without(digits, at)
		if isPads(rest) {
			return state
		}
		return r.Next[state][columnOf(rest)]
	})
	s.Start = r.Start
	return s
}

func naiveMove(r impl.Relation, order []int64) impl.Relation {
	s := madeBy(r.Tapes, slices.Clone(r.Accept), func(state int64, digits []int64) int64 {
		var moved []int64
		for _, from := range order {
			moved = append(moved, digits[from])
		}
		return r.Next[state][columnOf(moved)]
	})
	s.Start = r.Start
	return s
}

func naiveSame(r impl.Relation, tape, other int64) impl.Relation {
	dead := int64(len(r.Next))
	s := madeBy(r.Tapes, append(slices.Clone(r.Accept), false), func(state int64, digits []int64) int64 {
		if state == dead || digits[tape] != digits[other] {
			return dead
		}
		return r.Next[state][columnOf(digits)]
	})
	s.Start = r.Start
	return s
}

func naiveFix(r impl.Relation, tape int64, w string) impl.Relation {
	n := int64(len(w)) + 1
	alone := slices.Repeat([]int64{2}, int(r.Tapes-1))
	var accept []bool
	for p := range r.Next {
		for i := range n {
			state := int64(p)
			for _, letter := range w[i:] {
				state = r.Next[state][columnOf(inserted(alone, tape, int64(letter-'a')))]
			}
			accept = append(accept, r.Accept[state])
		}
	}
	s := madeBy(r.Tapes-1, accept, func(state int64, digits []int64) int64 {
		p, i := state/n, state%n
		letter := int64(2)
		if i < n-1 {
			letter = int64(w[i] - 'a')
		}
		return r.Next[p][columnOf(inserted(digits, tape, letter))]*n + min(i+1, n-1)
	})
	s.Start = r.Start * n
	return s
}

// naiveSets returns the automaton of sets of states, all of which are met. (It
// stops at 5000 of them, which are too many in any case.)
func naiveSets(r impl.Relation, tape int64) impl.Relation {
	alike := make([][]int64, columns(r.Tapes-1))
	for c := range alike {
		for letter := range int64(3) {
			alike[c] = append(alike[c], columnOf(inserted(digitsOf(r.Tapes-1, int64(c)), tape, letter)))
		}
	}
	first := make([]bool, len(r.Next))
	first[r.Start] = true
	sets := [][]bool{first}
	numbers := map[string]int64{keyOf(first): 0}
	good := goodOn(r, tape)
	made := impl.Relation{Tapes: r.Tapes - 1}
	for i := 0; i < len(sets) && i < 5000; i++ {
		accepts := false
		for s, in := range sets[i] {
			accepts = accepts || in && good[s]
		}
		row := make([]int64, len(alike))
		for c := range row {
			next := behind(r, sets[i], alike[c])
			number, met := numbers[keyOf(next)]
			if !met {
				number = int64(len(sets))
				numbers[keyOf(next)] = number
				sets = append(sets, next)
			}
			row[c] = number
		}
		made.Accept = append(made.Accept, accepts)
		made.Next = append(made.Next, row)
	}
	return made
}

// goodOn tells from which states letters on one tape alone lead to an accepting one.
func goodOn(r impl.Relation, tape int64) []bool {
	good := slices.Clone(r.Accept)
	alone := slices.Repeat([]int64{2}, int(r.Tapes-1))
	for range r.Next {
		for letter := range int64(2) {
			column := columnOf(inserted(alone, tape, letter))
			for s := range r.Next {
				good[s] = good[s] || good[r.Next[s][column]]
			}
		}
	}
	return good
}

func behind(r impl.Relation, set []bool, alike []int64) []bool {
	next := make([]bool, len(set))
	for s, in := range set {
		for _, c := range alike {
			to := r.Next[s][c]
			next[to] = next[to] || in
		}
	}
	return next
}

func keyOf(set []bool) string {
	key := make([]byte, len(set))
	for s, in := range set {
		if in {
			key[s] = 1
		}
	}
	return string(key)
}

// placesOf returns an automaton with a state for each state of another one and
// the tapes that have ended, as they are met, and one, the last one, to which
// lists lead that are not right, if there are any.
func placesOf(r impl.Relation) impl.Relation {
	list := []pair{{p: r.Start}}
	numbers := map[pair]int64{list[0]: 0}
	const dead = -1
	isMet := false
	places := impl.Relation{Tapes: r.Tapes}
	for i := 0; i < len(list); i++ {
		row := make([]int64, columns(r.Tapes))
		for c := range row {
			now := endedBy(r.Tapes, int64(c))
			if !goesOn(list[i].ended, now) {
				row[c], isMet = dead, true
				continue
			}
			to := pair{p: r.Next[list[i].p][c], ended: now}
			number, met := numbers[to]
			if !met {
				number = int64(len(list))
				numbers[to] = number
				list = append(list, to)
			}
			row[c] = number
		}
		places.Accept = append(places.Accept, r.Accept[list[i].p])
		places.Next = append(places.Next, row)
	}
	if isMet {
		places.Accept = append(places.Accept, false)
		places.Next = append(places.Next, slices.Repeat([]int64{dead}, int(columns(r.Tapes))))
	}
	for _, row := range places.Next {
		for c, next := range row {
			if next == dead {
				row[c] = int64(len(list))
			}
		}
	}
	return places
}

// classesOf numbers the classes of states that take the same lists of columns.
func classesOf(r impl.Relation) (classes []int64, count int) {
	classes = make([]int64, len(r.Next))
	for s, accepts := range r.Accept {
		if accepts {
			classes[s] = 1
		}
	}
	for {
		numbers := map[string]int64{}
		finer := make([]int64, len(r.Next))
		for s, row := range r.Next {
			key := binary.AppendVarint(nil, classes[s])
			for _, next := range row {
				key = binary.AppendVarint(key, classes[next])
			}
			number, known := numbers[string(key)]
			if !known {
				number = int64(len(numbers))
				numbers[string(key)] = number
			}
			finer[s] = number
		}
		if len(numbers) == count {
			return finer, count
		}
		classes, count = finer, len(numbers)
	}
}

// naiveTidy returns a tidy automaton of any size, but for the order of its states.
func naiveTidy(r impl.Relation) impl.Relation {
	places := placesOf(r)
	classes, count := classesOf(places)
	tidy := impl.Relation{Tapes: r.Tapes, Accept: make([]bool, count), Next: make([][]int64, count)}
	for s, class := range classes {
		row := make([]int64, columns(r.Tapes))
		for c, next := range places.Next[s] {
			row[c] = classes[next]
		}
		tidy.Accept[class], tidy.Next[class] = places.Accept[s], row
	}
	return tidy
}

// tidySize returns how many states the tidy relation of an automaton has.
func tidySize(r impl.Relation) int { return len(naiveTidy(r).Next) }

// isMade compares what a function has returned with an automaton of any size,
// on the way to which there were others, the greatest one with so many states.
// It returns the number of states that the result should have.
func isMade(t *testing.T, name string, got impl.Relation, code int64, want impl.Relation, greatest int) int {
	t.Helper()
	if greatest > impl.MaxRaw {
		isLimit(t, name, got, code)
		return greatest
	}
	size := tidySize(want)
	if size > impl.MaxStates {
		isLimit(t, name, got, code)
		return size
	}
	if code != impl.OK || !impl.ValidRelation(got) || got.Tapes != want.Tapes {
		t.Fatalf("%s: %v, %d, but there should be %d states", name, got, code, size)
	}
	if len(got.Next) != size || !isNumberedAsMet(got) {
		t.Fatalf("%s: %v is not tidy, there should be %d states", name, got, size)
	}
	if !takeTheSame(got, want) {
		t.Fatalf("%s: %v takes others than %v", name, got, want)
	}
	return size
}

func isLimit(t *testing.T, name string, got impl.Relation, code int64) {
	t.Helper()
	if code != impl.ErrLimit || !impl.SameRelation(got, impl.Relation{}) {
		t.Fatalf("%s: %d states, %d, but there should be too many", name, len(got.Next), code)
	}
}

func isNumberedAsMet(r impl.Relation) bool {
	met := int64(1)
	for s, row := range r.Next {
		if int64(s) >= met {
			return false
		}
		for _, next := range row {
			if next > met {
				return false
			}
			met = max(met, next+1)
		}
	}
	return r.Start == 0
}

// lasso takes the words with so many "b" and then a multiple of so many "a". Its
// tidy relation has as many states as both together, and one more.
func lasso(before, around int64) impl.Relation {
	dead := before + around
	r := impl.Relation{Tapes: 1}
	for s := range dead + 1 {
		row := []int64{dead, dead}
		if s < before {
			row[1] = s + 1
		} else if s < dead {
			row[0] = before + (s-before+1)%around
		}
		r.Accept = append(r.Accept, s == before)
		r.Next = append(r.Next, row)
	}
	return r
}

// evenRing takes the tuples of words of one length that is a multiple of n. Its
// tidy relation has n+1 states.
func evenRing(tapes, n int64) impl.Relation {
	accept := make([]bool, n+1)
	accept[0] = true
	return madeBy(tapes, accept, func(state int64, digits []int64) int64 {
		if state == n || slices.Contains(digits, 2) {
			return n
		}
		return (state + 1) % n
	})
}

// padded has the states of a relation twice, and one that is not reached.
func padded(r impl.Relation) impl.Relation {
	n := int64(len(r.Next))
	s := impl.Relation{Tapes: r.Tapes, Start: r.Start + n}
	for i := range 2*n + 1 {
		row := make([]int64, columns(r.Tapes))
		for c := range row {
			row[c] = r.Next[i%n][c] + n*(int64(c)%2)
		}
		s.Accept = append(s.Accept, r.Accept[i%n])
		s.Next = append(s.Next, row)
	}
	return s
}

// codeOf returns what a function has returned behind its result.
func codeOf(_ impl.Relation, code int64) int64 { return code }

// made returns what a function makes, for which there has to be no error.
func made(t *testing.T) func(r impl.Relation, code int64) impl.Relation {
	return func(r impl.Relation, code int64) impl.Relation {
		t.Helper()
		if code != impl.OK {
			t.Fatalf("there is the error %d", code)
		}
		return r
	}
}
