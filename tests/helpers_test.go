package tests

import (
	"reflect"
	"slices"
	"strings"
	"testing"

	"loop.example/g01168/impl"
)

// The helpers follow the document word by word and use nothing of the program
// but its types, so that the tests compare two different ways.

func equal(t *testing.T, what string, got, want any) {
	t.Helper()
	if !reflect.DeepEqual(got, want) {
		t.Errorf("%s: got %v, want %v", what, got, want)
	}
}

// dice gives numbers that look random and are the same in every run.
type dice uint64

func (d *dice) below(n int64) int64 {
	*d = *d*6364136223846793005 + 1442695040888963407
	return int64(uint64(*d)>>33) % n
}

func randomRelation(d *dice, tapes, states int64) impl.Relation {
	r := impl.Relation{Tapes: tapes, Start: d.below(states)}
	for range states {
		row := make([]int64, columns(tapes))
		for c := range row {
			row[c] = d.below(states)
		}
		r.Accept = append(r.Accept, d.below(3) == 0)
		r.Next = append(r.Next, row)
	}
	return r
}

func columns(tapes int64) int64 {
	return []int64{0, 2, 8, 26}[tapes]
}

func wordsUpTo(n int) []string {
	words := []string{""}
	last := words
	for range n {
		var longer []string
		for _, w := range last {
			longer = append(longer, w+"a", w+"b")
		}
		words = append(words, longer...)
		last = longer
	}
	return words
}

func numbersOf(words []string) []int64 {
	longest := 0
	for _, w := range words {
		longest = max(longest, len(w))
	}
	list := make([]int64, longest)
	for i := range list {
		power := int64(1)
		for _, w := range words {
			if i >= len(w) {
				list[i] += 2 * power
			} else if w[i] == 'b' {
				list[i] += power
			}
			power *= 3
		}
	}
	return list
}

func inOrder(u, w []string) int {
	x, y := numbersOf(u), numbersOf(w)
	if len(x) != len(y) {
		return len(x) - len(y)
	}
	return slices.Compare(x, y)
}

// allTuples returns all tuples of words with at most n letters, in order.
func allTuples(tapes int64, n int) [][]string {
	list := [][]string{nil}
	for range tapes {
		var longer [][]string
		for _, tuple := range list {
			for _, w := range wordsUpTo(n) {
				longer = append(longer, append(slices.Clone(tuple), w))
			}
		}
		list = longer
	}
	slices.SortFunc(list, inOrder)
	return list
}

func takes(r impl.Relation, words []string) bool {
	state := r.Start
	for _, c := range numbersOf(words) {
		state = r.Next[state][c]
	}
	return r.Accept[state]
}

func takenUpTo(r impl.Relation, n int) [][]string {
	var list [][]string
	for _, words := range allTuples(r.Tapes, n) {
		if takes(r, words) {
			list = append(list, words)
		}
	}
	return list
}

// endedBy tells which tapes have pads in a column.
func endedBy(tapes, column int64) [3]bool {
	var ended [3]bool
	for t := range tapes {
		ended[t] = column%3 == 2
		column /= 3
	}
	return ended
}

func goesOn(ended, now [3]bool) bool {
	for t := range ended {
		if ended[t] && !now[t] {
			return false
		}
	}
	return true
}

type pair struct {
	p, q  int64
	ended [3]bool
}

// takeTheSame walks through both automata at once, along right lists only.
func takeTheSame(r, s impl.Relation) bool {
	list := []pair{{p: r.Start, q: s.Start}}
	met := map[pair]bool{list[0]: true}
	for i := 0; i < len(list); i++ {
		at := list[i]
		if r.Accept[at.p] != s.Accept[at.q] {
			return false
		}
		for c := range columns(r.Tapes) {
			now := endedBy(r.Tapes, c)
			next := pair{r.Next[at.p][c], s.Next[at.q][c], now}
			if goesOn(at.ended, now) && !met[next] {
				met[next] = true
				list = append(list, next)
			}
		}
	}
	return true
}

// chain returns the relation of one tape that takes just the word of n times
// "a"; it has n+2 states.
func chain(n int64) impl.Relation {
	r := impl.Relation{Tapes: 1}
	for s := range n + 2 {
		r.Accept = append(r.Accept, s == n)
		r.Next = append(r.Next, []int64{min(s+1, n+1), n + 1})
	}
	return r
}

// firstWords returns the relation of one tape that takes just the first n
// words, at least one, by holding each word against the last one of them.
func firstWords(n int64) impl.Relation {
	last := ""
	for left := n; left > 1; left /= 2 {
		last = string("ab"[left%2]) + last
	}
	length := int64(len(last))
	const less, tight, greater = 0, 1, 2
	dead := 3 * (length + 1)
	r := impl.Relation{Tapes: 1, Start: tight}
	for i := range length + 1 {
		for kind := range int64(3) {
			row := []int64{dead, dead}
			for c := range row {
				to := kind
				if i < length && kind == tight && "ab"[c] != last[i] {
					to = greater * int64(c)
				}
				if i < length {
					row[c] = 3*(i+1) + to
				}
			}
			r.Accept = append(r.Accept, i < length || kind != greater)
			r.Next = append(r.Next, row)
		}
	}
	r.Accept = append(r.Accept, false)
	r.Next = append(r.Next, []int64{dead, dead})
	return r
}

// everything returns a relation that takes all tuples.
func everything(tapes int64) impl.Relation {
	return impl.Relation{Tapes: tapes, Accept: []bool{true}, Next: [][]int64{make([]int64, columns(tapes))}}
}

func nothing(tapes int64) impl.Relation {
	r := everything(tapes)
	r.Accept[0] = false
	return r
}

// copyOf copies a relation, with the lengths and the elements that it has.
func copyOf(r impl.Relation) impl.Relation {
	s := impl.Relation{Tapes: r.Tapes, Start: r.Start, Accept: slices.Clone(r.Accept)}
	for _, row := range r.Next {
		s.Next = append(s.Next, slices.Clone(row))
	}
	return s
}

func relationFrom(t *testing.T, lines ...string) impl.Relation {
	t.Helper()
	r, code := impl.ReadRelation(strings.Join(lines, "\n") + "\n")
	if code != impl.OK {
		t.Fatalf("%q cannot be read: %d", lines, code)
	}
	return r
}

// evenA takes the words with an even number of "a".
func evenA() impl.Relation {
	return impl.Relation{Tapes: 1, Accept: []bool{true, false}, Next: [][]int64{{1, 0}, {0, 1}}}
}

// someRelations are valid relations of all kinds.
func someRelations() []impl.Relation {
	list := []impl.Relation{evenA(), chain(3), chain(40), firstWords(20)}
	d := dice(7)
	for tapes := int64(1); tapes <= 3; tapes++ {
		list = append(list, everything(tapes), nothing(tapes))
		for range 40 {
			list = append(list, randomRelation(&d, tapes, 1+d.below(5)))
		}
		list = append(list, randomRelation(&d, tapes, 20))
	}
	return list
}

// wrongRelations are relations that are not valid, each for another reason.
func wrongRelations() []impl.Relation {
	list := []impl.Relation{{}, {Tapes: 1}}
	change := func(f func(r *impl.Relation)) {
		r := evenA()
		f(&r)
		list = append(list, r)
	}
	change(func(r *impl.Relation) { r.Tapes = 0 })
	change(func(r *impl.Relation) { r.Tapes = 2 })
	change(func(r *impl.Relation) { r.Tapes = -1 })
	change(func(r *impl.Relation) { r.Tapes = 4 })
	change(func(r *impl.Relation) { r.Tapes = 1 << 62 })
	change(func(r *impl.Relation) { r.Start = -1 })
	change(func(r *impl.Relation) { r.Start = 2 })
	change(func(r *impl.Relation) { r.Accept = nil })
	change(func(r *impl.Relation) { r.Accept = r.Accept[:1] })
	change(func(r *impl.Relation) { r.Accept = append(r.Accept, true) })
	change(func(r *impl.Relation) { r.Next = nil })
	change(func(r *impl.Relation) { r.Next[1] = nil })
	change(func(r *impl.Relation) { r.Next[1] = []int64{0} })
	change(func(r *impl.Relation) { r.Next[1] = []int64{0, 1, 0} })
	change(func(r *impl.Relation) { r.Next[1][1] = 2 })
	change(func(r *impl.Relation) { r.Next[0][0] = -1 })
	change(func(r *impl.Relation) { r.Next[0][0] = -1 << 63 })
	four := impl.Relation{Tapes: 4, Accept: []bool{true}, Next: [][]int64{make([]int64, 80)}}
	none := impl.Relation{Tapes: 0, Accept: []bool{true}, Next: [][]int64{{}}}
	return append(list, four, none, chain(impl.MaxStates-1))
}
