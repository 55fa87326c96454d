package tests

import (
	"slices"
	"strings"
	"testing"

	"loop.example/g01168/impl"
)

// Promise 16: transducers that are trimmed, and what they read and write.

func TestTrimmedTransducers(t *testing.T) {
	d := dice(631)
	list := append(someMachines(), fullMachine())
	for range 200 {
		states := 1 + d.below(12)
		list = append(list, randomMachine(&d, states, d.below(2*states)))
	}
	for range 40 {
		x := randomMachine(&d, 40, 30+d.below(60))
		for p := range x.Accept {
			x.Accept[p] = x.Accept[p] && d.below(6) == 0
		}
		list = append(list, x)
	}
	less := 0
	for _, x := range list {
		got, code := impl.TrimTransducer(x)
		sameMachine(t, "TrimTransducer of "+textOf(x), got, code, naiveTrim(x))
		again, code := impl.TrimTransducer(got)
		sameMachine(t, "TrimTransducer of this", again, code, got)
		if len(got.Accept) < len(x.Accept) {
			less++
		}
	}
	if less < 50 {
		t.Errorf("only %d transducers have states that are left out", less)
	}
	for _, x := range wrongMachines() {
		got, code := impl.TrimTransducer(x)
		isNoMachine(t, "TrimTransducer", got, code, impl.ErrInvalid)
	}
}

func TestTrimmedTransducersRelateTheSame(t *testing.T) {
	words := wordsUpTo(3)
	for _, x := range someMachines() {
		trimmed := madeMachine(t)(impl.TrimTransducer(x))
		for _, u := range words {
			for _, w := range words {
				if yes, _ := impl.Relates(trimmed, u, w); yes != naiveRelates(x, u, w) {
					t.Fatalf("%q to %q: %v, when %s is trimmed to %s", u, w, yes, textOf(x), textOf(trimmed))
				}
			}
		}
	}
}

func TestWhatIsTrimmed(t *testing.T) {
	for _, c := range []struct {
		what    string
		x, want impl.Transducer
	}{
		{"a state that is not reached", machineOf(0, "yy", "0 0 a b", "1 0 a a", "1 1 b b"), machineOf(0, "y", "0 0 a b")},
		{"a state that leads nowhere", machineOf(0, "yn", "0 1 a b", "0 0 b b", "1 1 a a"), machineOf(0, "y", "0 0 b b")},
		{"states in front of the start", machineOf(2, "yyn", "0 2 a b", "2 1 b a", "1 1 - -"), machineOf(1, "yn", "1 0 b a", "0 0 - -")},
		{"a start that leads nowhere", machineOf(1, "yn", "0 1 a a", "0 0 b b"), machineOf(0, "n")},
		{"a start whose edges all lead nowhere", machineOf(0, "nnn", "0 1 a a", "1 2 b b", "2 0 - -", "0 2 a b"), machineOf(0, "n")},
		{"an accepting start whose edges all lead nowhere", machineOf(0, "ynn", "0 1 a a", "1 2 b b", "0 2 a b"), machineOf(0, "y")},
		{"no edge at all", machineOf(2, "yny"), machineOf(0, "y")},
		{"no edge, and a start that does not accept", machineOf(1, "yny"), machineOf(0, "n")},
		{"nothing", machineOf(1, "nyn", "1 0 a b", "0 2 - a", "0 1 b b"), machineOf(1, "ny", "1 0 a b", "0 1 b b")},
		{"edges that come twice", machineOf(0, "ny", "0 1 a b", "0 0 b a", "0 1 a b"), machineOf(0, "ny", "0 1 a b", "0 0 b a", "0 1 a b")},
		{"a way to an accepting state by empty words", machineOf(0, "nny", "0 1 - -", "1 2 - -"), machineOf(0, "nny", "0 1 - -", "1 2 - -")},
	} {
		got, code := impl.TrimTransducer(c.x)
		sameMachine(t, c.what, got, code, c.want)
	}
}

// The start is not left out, and so the edges from it to itself are not, though no
// accepting state is reached.
func TestStartStays(t *testing.T) {
	got, code := impl.TrimTransducer(machineOf(1, "yn", "1 1 a -", "0 1 b b", "1 1 b a"))
	sameMachine(t, "TrimTransducer", got, code, machineOf(0, "n", "0 0 a -", "0 0 b a"))
}

// hasPartner tells whether a word is related to some word, however long.
func hasPartner(x impl.Transducer, u string) bool {
	silent := copyOfMachine(x)
	for i := range silent.Edges {
		silent.Edges[i].Out = ""
	}
	return naiveRelates(silent, u, "")
}

func TestInputsAndOutputs(t *testing.T) {
	for _, x := range append(someMachines(), fullMachine()) {
		for _, side := range []struct {
			name string
			x    impl.Transducer
			of   func(x impl.Transducer) (impl.Relation, int64)
		}{
			{"InputsOf", x, impl.InputsOf},
			{"OutputsOf", naiveTurn(x), impl.OutputsOf},
		} {
			got, code := side.of(x)
			want := naiveInputs(side.x)
			isMade(t, side.name+" of "+textOf(x), got, code, want, len(want.Next))
			for _, u := range wordsUpTo(4) {
				if code == impl.OK && takes(got, []string{u}) != hasPartner(side.x, u) {
					t.Fatalf("%s takes %q wrongly, by %s", side.name, u, textOf(x))
				}
			}
		}
	}
}

// Inputs have images, and images are outputs.
func TestInputsHaveImages(t *testing.T) {
	for _, x := range someMachines() {
		in, code := impl.InputsOf(x)
		equal(t, "InputsOf", code, int64(impl.OK))
		out := made(t)(impl.OutputsOf(x))
		for _, u := range wordsUpTo(3) {
			images, code := impl.ImagesOf(x, u, 6)
			equal(t, "ImagesOf", code, int64(impl.OK))
			// Paths to the accepting state of small transducers are short, and so is
			// what is written on them.
			if takes(in, []string{u}) != (len(naiveImages(x, u, 12)) > 0) {
				t.Fatalf("%q has no images, by %s", u, textOf(x))
			}
			for _, w := range images {
				if !takes(in, []string{u}) || !takes(out, []string{w}) {
					t.Fatalf("%q is related to %q, but they are not taken, by %s", u, w, textOf(x))
				}
			}
		}
	}
}

func TestWhatIsRead(t *testing.T) {
	known := knownMachines()
	words := func(list ...string) [][]string {
		var tuples [][]string
		for _, w := range list {
			tuples = append(tuples, []string{w})
		}
		return tuples
	}
	for _, c := range []struct {
		x       impl.Transducer
		in, out [][]string
	}{
		{known[0], words("", "a", "b", "aa", "ab", "ba", "bb"), words("", "b", "bb")},
		{known[3], words(""), words("")},
		{known[4], nil, nil},
		{known[5], nil, nil},
		{known[6], words(""), words("", "a", "aa")},
		{known[8], words("", "a", "b", "aa", "ab", "ba", "bb"), words("", "aa", "bb")},
		{known[9], words("", "a", "b", "aa", "ab", "ba", "bb"), words("", "a", "b", "aa", "ab", "ba", "bb")},
		{known[13], nil, nil},
		{known[14], words("a", "b"), words("", "a", "b")},
	} {
		equal(t, "inputs", takenUpTo(made(t)(impl.InputsOf(c.x)), 2), c.in)
		equal(t, "outputs", takenUpTo(made(t)(impl.OutputsOf(c.x)), 2), c.out)
	}
	none := made(t)(impl.InputsOf(known[5]))
	equal(t, "no inputs", impl.RelationText(none), "relation 1 1 0\nno 0 0\n")
	all := made(t)(impl.InputsOf(known[7]))
	equal(t, "all inputs", impl.RelationText(all), "relation 1 1 0\nyes 0 0\n")
}

// circlesWith has a start, then a path of so many states, and circles with so many
// states, to each of which an edge with empty words leads. All of its states accept.
// Each edge is there for each of the letters.
func circlesWith(path int, letters string, circles ...int) impl.Transducer {
	x := impl.Transducer{Accept: []bool{true}}
	add := func(from, to int) {
		for _, letter := range strings.Split(letters, "") {
			x.Edges = append(x.Edges, impl.Edge{From: int64(from), To: int64(to), In: letter})
		}
	}
	for i := range path {
		add(i, i+1)
		x.Accept = append(x.Accept, true)
	}
	for _, size := range circles {
		first := len(x.Accept)
		x.Edges = append(x.Edges, silent(0, first))
		for i := range size {
			add(first+i, first+(i+1)%size)
			x.Accept = append(x.Accept, true)
		}
	}
	return x
}

// Circles are in as many positions at once as their least common multiple tells.
func TestHowManySetsAreMet(t *testing.T) {
	everyWord, onlyA := everything(1), naiveTidy(chainsOf("a"))
	for _, c := range []struct {
		what string
		x    impl.Transducer
		sets int
		want impl.Relation
	}{
		{"990 positions, the start, and a path", circlesWith(9, "ab", 9, 10, 11), 1000, everyWord},
		{"the same, with the empty set", circlesWith(8, "a", 9, 10, 11), 1000, onlyA},
		{"one set more", circlesWith(9, "a", 9, 10, 11), 1001, onlyA},
		{"1001 positions, and the start", circlesWith(0, "ab", 7, 11, 13), 1002, everyWord},
	} {
		equal(t, c.what, len(naiveInputs(c.x).Next), c.sets)
		got, code := impl.InputsOf(c.x)
		isMade(t, c.what, got, code, c.want, c.sets)
		got, code = impl.OutputsOf(naiveTurn(c.x))
		isMade(t, c.what+", turned", got, code, c.want, c.sets)
		// What is on the other side does not matter.
		got, code = impl.OutputsOf(c.x)
		isMade(t, c.what+", on the other side", got, code, listed(t, []string{""}), 1)
	}
}

// If few states of the circles accept, the tidy relation has as many states as there
// are positions.
func TestHowManyStatesInputsHave(t *testing.T) {
	for _, c := range []struct {
		what    string
		circles []int
		start   bool
		size    int
	}{
		{"150 states", []int{2, 3, 25}, true, 150},
		{"151 states", []int{2, 3, 25}, false, 151},
		{"154 states", []int{2, 7, 11}, true, 154},
	} {
		x := circlesWith(0, "ab", c.circles...)
		// The start leads to the second states of circles, of which the first accept.
		first := int64(1)
		x.Edges = slices.DeleteFunc(x.Edges, func(e impl.Edge) bool { return e.In == "" })
		for _, size := range c.circles {
			for p := first + 1; p < first+int64(size); p++ {
				x.Accept[p] = false
			}
			x.Edges = append(x.Edges, impl.Edge{To: first + 1, In: "a"}, impl.Edge{To: first + 1, In: "b"})
			first += int64(size)
		}
		x.Accept[0] = c.start
		want := naiveInputs(x)
		equal(t, c.what, tidySize(want), c.size)
		got, code := impl.InputsOf(x)
		isMade(t, c.what, got, code, want, len(want.Next))
		got, code = impl.OutputsOf(naiveTurn(x))
		isMade(t, c.what, got, code, want, len(want.Next))
	}
}

func TestErrorsOfInputsAndOutputs(t *testing.T) {
	for _, x := range wrongMachines() {
		for _, of := range []func(x impl.Transducer) (impl.Relation, int64){impl.InputsOf, impl.OutputsOf} {
			r, code := of(x)
			equal(t, "a transducer that is not valid", []any{len(r.Next), code}, []any{0, int64(impl.ErrInvalid)})
		}
	}
}
