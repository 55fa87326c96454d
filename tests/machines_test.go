package tests

import (
	"fmt"
	"slices"
	"strconv"
	"strings"
	"testing"

	"loop.example/g01168/impl"
)

// What the document tells of transducers, a second time. As the other helpers,
// these use nothing of the program but its types, unless they say so.

// machineOf makes a transducer of its start, of "y" or "n" for each state, and of
// edges that are written as in the text of a transducer.
func machineOf(start int64, accept string, edges ...string) impl.Transducer {
	x := impl.Transducer{Start: start}
	for _, letter := range accept {
		x.Accept = append(x.Accept, letter == 'y')
	}
	for _, text := range edges {
		words := strings.Fields(text)
		var e impl.Edge
		fmt.Sscan(words[0], &e.From)
		fmt.Sscan(words[1], &e.To)
		e.In, e.Out = strings.Trim(words[2], "-"), strings.Trim(words[3], "-")
		x.Edges = append(x.Edges, e)
	}
	return x
}

func copyOfMachine(x impl.Transducer) impl.Transducer {
	return impl.Transducer{Start: x.Start, Accept: slices.Clone(x.Accept), Edges: slices.Clone(x.Edges)}
}

// sameMachine compares what a function has returned with a transducer that it should
// return.
func sameMachine(t *testing.T, what string, got impl.Transducer, code int64, want impl.Transducer) {
	t.Helper()
	if code != impl.OK || got.Start != want.Start || !slices.Equal(got.Accept, want.Accept) || !slices.Equal(got.Edges, want.Edges) {
		t.Fatalf("%s: %v, %d, but it is %v", what, got, code, want)
	}
}

// isNoMachine looks whether there is an error, and nothing beside it.
func isNoMachine(t *testing.T, what string, got impl.Transducer, code, want int64) {
	t.Helper()
	if code != want || got.Start != 0 || len(got.Accept) > 0 || len(got.Edges) > 0 {
		t.Errorf("%s: %v, %d, but the error is %d", what, got, code, want)
	}
}

// spot is a state, and how many letters of both words have been read and written.
type spot struct {
	state int64
	i, j  int
}

// naiveRelates walks along all edges that fit what is left of both words.
func naiveRelates(x impl.Transducer, u, w string) bool {
	list := []spot{{state: x.Start}}
	met := map[spot]bool{list[0]: true}
	for k := 0; k < len(list); k++ {
		at := list[k]
		if x.Accept[at.state] && at.i == len(u) && at.j == len(w) {
			return true
		}
		for _, e := range x.Edges {
			next := spot{e.To, at.i + len(e.In), at.j + len(e.Out)}
			if e.From == at.state && strings.HasPrefix(u[at.i:], e.In) && strings.HasPrefix(w[at.j:], e.Out) && !met[next] {
				met[next] = true
				list = append(list, next)
			}
		}
	}
	return false
}

// output is a state, how many letters have been read, and what has been written.
type output struct {
	state int64
	i     int
	w     string
}

func byLength(u, w string) int {
	if len(u) != len(w) {
		return len(u) - len(w)
	}
	return strings.Compare(u, w)
}

// naiveImages writes in all ways while it reads u, at most so many letters.
func naiveImages(x impl.Transducer, u string, length int) []string {
	list := []output{{state: x.Start}}
	met := map[output]bool{list[0]: true}
	images := map[string]bool{}
	for k := 0; k < len(list); k++ {
		at := list[k]
		if x.Accept[at.state] && at.i == len(u) {
			images[at.w] = true
		}
		for _, e := range x.Edges {
			next := output{e.To, at.i + len(e.In), at.w + e.Out}
			if e.From == at.state && strings.HasPrefix(u[at.i:], e.In) && len(next.w) <= length && !met[next] {
				met[next] = true
				list = append(list, next)
			}
		}
	}
	var sorted []string
	for w := range images {
		sorted = append(sorted, w)
	}
	slices.SortFunc(sorted, byLength)
	return sorted
}

// pathsIn tells for each pair of states whether there is a path from one to the other.
func pathsIn(x impl.Transducer) [][]bool {
	n := len(x.Accept)
	paths := make([][]bool, n)
	for p := range paths {
		paths[p] = make([]bool, n)
		paths[p][p] = true
	}
	for _, e := range x.Edges {
		paths[e.From][e.To] = true
	}
	for middle := range n {
		for p := range n {
			for q := range n {
				paths[p][q] = paths[p][q] || paths[p][middle] && paths[middle][q]
			}
		}
	}
	return paths
}

// isNeeded tells whether a state is on a path from the start to an accepting state.
func isNeeded(x impl.Transducer, paths [][]bool, p int64) bool {
	for q, accepts := range x.Accept {
		if accepts && paths[x.Start][p] && paths[p][q] {
			return true
		}
	}
	return false
}

// naiveTrim leaves out one state after the other, from the last one to the first.
func naiveTrim(x impl.Transducer) impl.Transducer {
	paths := pathsIn(x)
	left := copyOfMachine(x)
	for p := int64(len(x.Accept)) - 1; p >= 0; p-- {
		if p == x.Start || isNeeded(x, paths, p) {
			continue
		}
		lower := func(q int64) int64 {
			if q > p {
				return q - 1
			}
			return q
		}
		left.Accept = without(left.Accept, p)
		left.Start = lower(left.Start)
		var edges []impl.Edge
		for _, e := range left.Edges {
			if e.From != p && e.To != p {
				edges = append(edges, impl.Edge{From: lower(e.From), To: lower(e.To), In: e.In, Out: e.Out})
			}
		}
		left.Edges = edges
	}
	return left
}

func naiveTurn(x impl.Transducer) impl.Transducer {
	turned := copyOfMachine(x)
	for i, e := range x.Edges {
		turned.Edges[i] = impl.Edge{From: e.From, To: e.To, In: e.Out, Out: e.In}
	}
	return turned
}

// naiveLags returns the lags of all paths with at most so many edges from a state to
// another one.
func naiveLags(x impl.Transducer, from int64, most int) map[int64][]int64 {
	lags := map[int64][]int64{from: {0}}
	for range most {
		further := map[int64][]int64{}
		for p, list := range lags {
			further[p] = append(further[p], list...)
			for _, e := range x.Edges {
				if e.From != p {
					continue
				}
				for _, lag := range list {
					further[e.To] = append(further[e.To], lag+int64(len(e.In))-int64(len(e.Out)))
				}
			}
		}
		for p := range further {
			slices.Sort(further[p])
			further[p] = slices.Compact(further[p])
		}
		lags = further
	}
	return lags
}

// isEven tells of a trimmed transducer whether it is balanced: the paths from a state
// to itself without further states that come again have at most as many edges as
// there are states.
func isEven(x impl.Transducer) bool {
	for p := range x.Accept {
		for _, lag := range naiveLags(x, int64(p), len(x.Accept))[int64(p)] {
			if lag != 0 {
				return false
			}
		}
	}
	return true
}

// naiveInputs returns the automaton of the sets of states that are met when a word is
// read, whatever is written. (It stops at 1500 of them, which are too many.)
func naiveInputs(x impl.Transducer) impl.Relation {
	silence := func(set []bool) []bool {
		for range x.Accept {
			for _, e := range x.Edges {
				set[e.To] = set[e.To] || set[e.From] && e.In == ""
			}
		}
		return set
	}
	first := make([]bool, len(x.Accept))
	first[x.Start] = true
	sets := [][]bool{silence(first)}
	numbers := map[string]int64{keyOf(sets[0]): 0}
	r := impl.Relation{Tapes: 1}
	for i := 0; i < len(sets) && i < 1500; i++ {
		row := make([]int64, 2)
		for c, letter := range []string{"a", "b"} {
			next := make([]bool, len(x.Accept))
			for _, e := range x.Edges {
				next[e.To] = next[e.To] || sets[i][e.From] && e.In == letter
			}
			next = silence(next)
			number, known := numbers[keyOf(next)]
			if !known {
				number = int64(len(sets))
				numbers[keyOf(next)] = number
				sets = append(sets, next)
			}
			row[c] = number
		}
		accepts := false
		for p, in := range sets[i] {
			accepts = accepts || in && x.Accept[p]
		}
		r.Accept = append(r.Accept, accepts)
		r.Next = append(r.Next, row)
	}
	return r
}

// waiting is a place: a state, and the letters that wait for an edge.
type waiting struct {
	state int64
	x, y  string
}

// naivePlaces returns the places of which the document tells that are reached from
// others by edges, in order, with words of at most so many letters.
func naivePlaces(x impl.Transducer, from []waiting, most int) []waiting {
	met := map[waiting]bool{}
	var walk func(at waiting)
	walk = func(at waiting) {
		if met[at] {
			return
		}
		met[at] = true
		for _, e := range x.Edges {
			rest, taken := strings.CutPrefix(at.x, e.In)
			other, written := strings.CutPrefix(at.y, e.Out)
			if e.From == at.state && taken && written {
				walk(waiting{e.To, rest, other})
			}
		}
	}
	for _, at := range from {
		walk(at)
	}
	var places []waiting
	for at := range met {
		if (at.x == "" || at.y == "") && max(len(at.x), len(at.y)) <= most {
			places = append(places, at)
		}
	}
	slices.SortFunc(places, func(p, q waiting) int { return strings.Compare(p.text(), q.text()) })
	return places
}

func (at waiting) text() string { return strconv.FormatInt(at.state, 10) + "/" + at.x + "/" + at.y }

func textOfPlaces(places []waiting) string {
	var texts []string
	for _, at := range places {
		texts = append(texts, at.text())
	}
	return strings.Join(texts, ";")
}

// naiveColumns returns the automaton of the sets of places of a trimmed transducer.
// (It stops as soon as there are more than 1100 of them, which are too many; then
// it has so many states, but leads out of them.)
func naiveColumns(x impl.Transducer) impl.Relation {
	most := 2 * len(x.Accept)
	sets := [][]waiting{naivePlaces(x, []waiting{{state: x.Start}}, most)}
	numbers := map[string]int64{textOfPlaces(sets[0]): 0}
	r := impl.Relation{Tapes: 2}
	for i := 0; i < len(sets) && len(sets) < 1100; i++ {
		row := make([]int64, 8)
		for c := range row {
			digits := digitsOf(2, int64(c))
			letters := []string{"a", "b", ""}
			var from []waiting
			for _, at := range sets[i] {
				from = append(from, waiting{at.state, at.x + letters[digits[0]], at.y + letters[digits[1]]})
			}
			next := naivePlaces(x, from, most)
			key := textOfPlaces(next)
			number, known := numbers[key]
			if !known {
				number = int64(len(sets))
				numbers[key] = number
				sets = append(sets, next)
			}
			row[c] = number
		}
		accepts := slices.ContainsFunc(sets[i], func(at waiting) bool { return isEndOf(x, at) })
		r.Accept = append(r.Accept, accepts)
		r.Next = append(r.Next, row)
	}
	for len(r.Next) < len(sets) {
		r.Next = append(r.Next, nil)
	}
	return r
}

// isEndOf tells whether edges from a place take all letters, up to an accepting state.
func isEndOf(x impl.Transducer, at waiting) bool {
	there := copyOfMachine(x)
	there.Start = at.state
	return naiveRelates(there, at.x, at.y)
}

// lettersOrNone are what edges read and write.
var lettersOrNone = []string{"", "a", "b"}

func randomMachine(d *dice, states, edges int64) impl.Transducer {
	x := impl.Transducer{Start: d.below(states)}
	for range states {
		x.Accept = append(x.Accept, d.below(2) == 0)
	}
	for range edges {
		x.Edges = append(x.Edges, impl.Edge{
			From: d.below(states), To: d.below(states), In: lettersOrNone[d.below(3)], Out: lettersOrNone[d.below(3)],
		})
	}
	return x
}

// evenMachine is a random transducer that is balanced: each edge reads a letter and
// writes one, or leads to a state with a greater number.
func evenMachine(d *dice, states, edges int64) impl.Transducer {
	x := randomMachine(d, states, edges)
	x.Start = 0
	for i, e := range x.Edges {
		if e.From >= e.To && (e.In == "") != (e.Out == "") {
			x.Edges[i].In, x.Edges[i].Out = "a", "ab"[i%2:i%2+1]
		}
	}
	return x
}

// knownMachines are transducers of which it is easy to tell what they relate.
func knownMachines() []impl.Transducer {
	return []impl.Transducer{
		machineOf(0, "y", "0 0 a b", "0 0 b -"),
		machineOf(0, "y", "0 0 a b"),
		machineOf(0, "y", "0 0 a a", "0 0 b b"),
		machineOf(0, "y"),
		machineOf(0, "n"),
		machineOf(0, "n", "0 0 a -", "0 0 - b"),
		machineOf(0, "y", "0 0 - -", "0 0 - a"),
		machineOf(0, "y", "0 0 a -", "0 0 b -", "0 0 - a", "0 0 - b"),
		// Each letter is written twice.
		machineOf(0, "ynn", "0 1 a a", "1 0 - a", "0 2 b b", "2 0 - b"),
		// Every second letter is left out.
		machineOf(1, "yy", "1 0 a a", "1 0 b b", "0 1 a -", "0 1 b -"),
		// A letter is written when the next one is read.
		machineOf(0, "ynny", "0 1 a -", "0 2 b -", "1 1 a a", "1 2 b a", "2 1 a b", "2 2 b b", "1 3 - a", "2 3 - b"),
		// Circles without letters through all states, one of which accepts.
		machineOf(2, "nyn", "2 0 - -", "0 1 - -", "1 2 - -", "2 2 a b", "0 0 b a"),
		// States that are not reached, and one that leads to no accepting one.
		machineOf(1, "ynynn", "1 2 a b", "0 0 a -", "0 2 b -", "1 3 a a", "3 3 b -", "4 3 - -", "2 1 b a"),
		machineOf(0, "nnn", "0 1 a b", "1 2 - -", "2 0 b a"),
		machineOf(0, "ny", "0 1 a a", "0 1 a b", "0 1 b -"),
	}
}

// someMachines are valid transducers of all kinds, few of them with many states.
func someMachines() []impl.Transducer {
	list := knownMachines()
	d := dice(601)
	for range 120 {
		states := 1 + d.below(4)
		list = append(list, randomMachine(&d, states, d.below(3*states)), evenMachine(&d, states, d.below(3*states)))
	}
	return list
}

// wrongMachines are transducers that are not valid, each for another reason.
func wrongMachines() []impl.Transducer {
	list := []impl.Transducer{{}, {Edges: []impl.Edge{{}}}, {Start: -1}}
	change := func(f func(x *impl.Transducer)) {
		x := machineOf(0, "yn", "0 1 a b", "1 0 - a")
		f(&x)
		list = append(list, x)
	}
	for _, start := range []int64{-1, 2, 1 << 62, -1 << 63} {
		change(func(x *impl.Transducer) { x.Start = start })
		change(func(x *impl.Transducer) { x.Edges[0].From = start })
		change(func(x *impl.Transducer) { x.Edges[1].To = start })
	}
	for _, text := range []string{"c", "#", "-", "A", "aa", "ab", " ", "a ", "\x00", strings.Repeat("a", 100)} {
		change(func(x *impl.Transducer) { x.Edges[0].In = text })
		change(func(x *impl.Transducer) { x.Edges[1].Out = text })
	}
	change(func(x *impl.Transducer) { x.Accept = nil })
	change(func(x *impl.Transducer) { x.Accept = x.Accept[:1] })
	change(func(x *impl.Transducer) { x.Accept = make([]bool, impl.MaxMachine+1) })
	change(func(x *impl.Transducer) { x.Edges = slices.Repeat(x.Edges[:1], impl.MaxEdges+1) })
	return list
}

// fullMachine has as many states and edges as there may be.
func fullMachine() impl.Transducer {
	d := dice(607)
	x := randomMachine(&d, impl.MaxMachine, impl.MaxEdges)
	x.Start = impl.MaxMachine - 1
	return x
}

// writing returns the transducer that relates the empty word to the words that a
// relation of one tape takes.
func writing(r impl.Relation) impl.Transducer {
	x := impl.Transducer{Start: r.Start, Accept: slices.Clone(r.Accept)}
	for p, row := range r.Next {
		for c, next := range row {
			x.Edges = append(x.Edges, impl.Edge{From: int64(p), To: next, Out: "ab"[c : c+1]})
		}
	}
	return x
}

// madeMachine returns what a function makes, for which there has to be no error.
func madeMachine(t *testing.T) func(x impl.Transducer, code int64) impl.Transducer {
	return func(x impl.Transducer, code int64) impl.Transducer {
		t.Helper()
		if code != impl.OK {
			t.Fatalf("there is the error %d", code)
		}
		return x
	}
}
