package tests

import (
	"slices"
	"strings"
	"testing"

	"loop.example/g01168/impl"
)

// Promise 15: transducers that are made of others.

type joinMachines struct {
	name string
	join func(s, x impl.Transducer) (impl.Transducer, int64)
	want func(s, x impl.Transducer) impl.Transducer
}

// allJoins are the functions that make a transducer of two.
func allJoins() []joinMachines {
	return []joinMachines{
		{"ChainTransducers", impl.ChainTransducers, naiveChain},
		{"EitherTransducer", impl.EitherTransducer, naiveEither},
		{"BehindTransducer", impl.BehindTransducer, naiveBehind},
	}
}

func silent(from, to int) impl.Edge { return impl.Edge{From: int64(from), To: int64(to)} }

// naiveChain makes the edges of each pair in the order in which the document tells.
func naiveChain(s, x impl.Transducer) impl.Transducer {
	n := len(x.Accept)
	chain := impl.Transducer{Start: s.Start*int64(n) + x.Start, Accept: make([]bool, len(s.Accept)*n)}
	number := func(p, q int64) int64 { return p*int64(n) + q }
	for i := range chain.Accept {
		p, q := int64(i/n), int64(i%n)
		chain.Accept[i] = s.Accept[p] && x.Accept[q]
		add := func(to int64, in, out string) {
			chain.Edges = append(chain.Edges, impl.Edge{From: int64(i), To: to, In: in, Out: out})
		}
		for _, e := range s.Edges {
			for _, f := range x.Edges {
				if e.From == p && e.Out != "" && f.From == q && f.In == e.Out {
					add(number(e.To, f.To), e.In, f.Out)
				}
			}
			if e.From == p && e.Out == "" {
				add(number(e.To, q), e.In, "")
			}
		}
		for _, f := range x.Edges {
			if f.From == q && f.In == "" {
				add(number(p, f.To), "", f.Out)
			}
		}
	}
	return chain
}

// renumbered returns the edges between states whose numbers are greater.
func renumbered(edges []impl.Edge, by int) []impl.Edge {
	list := slices.Clone(edges)
	for i := range list {
		list[i].From += int64(by)
		list[i].To += int64(by)
	}
	return list
}

func naiveEither(s, x impl.Transducer) impl.Transducer {
	second := 1 + len(s.Accept)
	edges := []impl.Edge{silent(0, 1+int(s.Start)), silent(0, second+int(x.Start))}
	return impl.Transducer{
		Accept: slices.Concat([]bool{false}, s.Accept, x.Accept),
		Edges:  slices.Concat(edges, renumbered(s.Edges, 1), renumbered(x.Edges, second)),
	}
}

func naiveBehind(s, x impl.Transducer) impl.Transducer {
	second := len(s.Accept)
	var between []impl.Edge
	for p := range s.Accept {
		if s.Accept[p] {
			between = append(between, silent(p, second+int(x.Start)))
		}
	}
	return impl.Transducer{
		Start:  s.Start,
		Accept: append(make([]bool, second), x.Accept...),
		Edges:  slices.Concat(s.Edges, between, renumbered(x.Edges, second)),
	}
}

func naiveRepeat(x impl.Transducer) impl.Transducer {
	repeat := impl.Transducer{Accept: append([]bool{true}, x.Accept...), Edges: []impl.Edge{silent(0, 1+int(x.Start))}}
	repeat.Edges = append(repeat.Edges, renumbered(x.Edges, 1)...)
	for p := range x.Accept {
		if x.Accept[p] {
			repeat.Edges = append(repeat.Edges, silent(1+p, 0))
		}
	}
	return repeat
}

func isTooLarge(x impl.Transducer) bool {
	return len(x.Accept) > impl.MaxMachine || len(x.Edges) > impl.MaxEdges
}

// machinePairs are pairs of transducers, few of which are too large together.
func machinePairs() [][2]impl.Transducer {
	var pairs [][2]impl.Transducer
	for _, s := range knownMachines() {
		for _, x := range knownMachines() {
			pairs = append(pairs, [2]impl.Transducer{s, x})
		}
	}
	d := dice(617)
	for range 300 {
		states := 1 + d.below(5)
		more := 1 + d.below(9)
		pairs = append(pairs, [2]impl.Transducer{randomMachine(&d, states, d.below(3*states)), randomMachine(&d, more, d.below(3*more))})
	}
	for range 60 {
		pairs = append(pairs, [2]impl.Transducer{randomMachine(&d, 1+d.below(3), d.below(30)), randomMachine(&d, 1+d.below(3), d.below(30))})
		pairs = append(pairs, [2]impl.Transducer{randomMachine(&d, 1+d.below(30), d.below(150)), randomMachine(&d, 1+d.below(30), d.below(150))})
	}
	return pairs
}

func TestJoinedTransducersAreMadeAsTold(t *testing.T) {
	for _, join := range allJoins() {
		large := 0
		for _, pair := range machinePairs() {
			s, x := pair[0], pair[1]
			got, code := join.join(s, x)
			want := join.want(s, x)
			if isTooLarge(want) {
				isNoMachine(t, join.name, got, code, impl.ErrLimit)
				large++
				continue
			}
			sameMachine(t, join.name+" of "+textOf(s)+textOf(x), got, code, want)
		}
		if large < 10 || large > 100 {
			t.Errorf("%s is too large %d times", join.name, large)
		}
	}
}

func TestRepeatedTransducersAreMadeAsTold(t *testing.T) {
	d := dice(619)
	list := append(someMachines(), fullMachine())
	for range 100 {
		list = append(list, randomMachine(&d, 1+d.below(40), 100+d.below(101)))
	}
	for _, x := range list {
		got, code := impl.RepeatTransducer(x)
		want := naiveRepeat(x)
		if isTooLarge(want) {
			isNoMachine(t, "RepeatTransducer", got, code, impl.ErrLimit)
			continue
		}
		sameMachine(t, "RepeatTransducer of "+textOf(x), got, code, want)
	}
}

// What is written in these tests is made by hand, so that the order of states and
// edges can be seen.
func TestOrderOfStatesAndEdges(t *testing.T) {
	s := machineOf(1, "yn", "1 0 a b", "0 1 b -", "1 1 - a", "0 0 - b")
	x := machineOf(1, "yy", "1 0 b a", "0 1 - b", "1 1 - -", "1 1 b -")
	chain, code := impl.ChainTransducers(s, x)
	sameMachine(t, "ChainTransducers", chain, code, machineOf(3, "yynn",
		"0 2 b -", "0 1 - b",
		"1 3 b -", "1 0 - a", "1 1 - -", "1 1 - -",
		"2 3 - b",
		"3 0 a a", "3 1 a -", "3 3 - -"))
	either, code := impl.EitherTransducer(s, x)
	sameMachine(t, "EitherTransducer", either, code, machineOf(0, "nynyy",
		"0 2 - -", "0 4 - -", "2 1 a b", "1 2 b -", "2 2 - a", "1 1 - b", "4 3 b a", "3 4 - b", "4 4 - -", "4 4 b -"))
	behind, code := impl.BehindTransducer(x, s)
	sameMachine(t, "BehindTransducer", behind, code, machineOf(1, "nnyn",
		"1 0 b a", "0 1 - b", "1 1 - -", "1 1 b -", "0 3 - -", "1 3 - -", "3 2 a b", "2 3 b -", "3 3 - a", "2 2 - b"))
	repeat, code := impl.RepeatTransducer(x)
	sameMachine(t, "RepeatTransducer", repeat, code, machineOf(0, "yyy",
		"0 2 - -", "2 1 b a", "1 2 - b", "2 2 - -", "2 2 b -", "1 0 - -", "2 0 - -"))
}

// readsAlong has no edge that writes without reading, so what is written is not
// longer than what is read.
func readsAlong(x impl.Transducer) impl.Transducer {
	y := copyOfMachine(x)
	for i, e := range y.Edges {
		if e.In == "" && e.Out != "" {
			y.Edges[i].In = "b"
		}
	}
	return y
}

func isChained(s, x impl.Transducer, u, w string, length int) bool {
	for _, v := range wordsUpTo(length) {
		if naiveRelates(s, u, v) && naiveRelates(x, v, w) {
			return true
		}
	}
	return false
}

func TestChainedTransducersRelateWhatIsTold(t *testing.T) {
	words := wordsUpTo(2)
	related := 0
	for i, pair := range machinePairs() {
		s, x := readsAlong(pair[0]), pair[1]
		if i%2 == 0 {
			s, x = pair[0], naiveTurn(readsAlong(naiveTurn(pair[1])))
		}
		chain, code := impl.ChainTransducers(s, x)
		if code != impl.OK {
			continue
		}
		for _, u := range words {
			for _, w := range words {
				yes, _ := impl.Relates(chain, u, w)
				if want := isChained(s, x, u, w, 2); yes != want {
					t.Fatalf("%q to %q: %v, by %s behind %s", u, w, yes, textOf(x), textOf(s))
				}
				if yes {
					related++
				}
			}
		}
	}
	if related < 1000 {
		t.Errorf("only %d pairs are related", related)
	}
}

// Words between may be longer than both others.
func TestChainsWithLongerWords(t *testing.T) {
	longer := machineOf(0, "nnnny", "0 1 a a", "1 2 - b", "2 3 - a", "3 4 - b")
	shorter := naiveTurn(longer)
	for _, c := range []struct {
		s, x impl.Transducer
		u, w string
		yes  bool
	}{
		{longer, shorter, "a", "a", true},
		{longer, shorter, "a", "", false},
		{longer, shorter, "", "", false},
		{shorter, longer, "abab", "abab", true},
		{shorter, longer, "abab", "aba", false},
		{longer, longer, "a", "abab", false},
	} {
		chain := madeMachine(t)(impl.ChainTransducers(c.s, c.x))
		yes, _ := impl.Relates(chain, c.u, c.w)
		equal(t, "chain of "+textOf(c.s)+textOf(c.x), yes, c.yes)
	}
	for _, pair := range machinePairs() {
		chain, code := impl.ChainTransducers(pair[0], pair[1])
		for _, u := range wordsUpTo(1) {
			if code != impl.OK {
				continue
			}
			for _, v := range naiveImages(pair[0], u, 4) {
				for _, w := range naiveImages(pair[1], v, 2) {
					if yes, _ := impl.Relates(chain, u, w); !yes {
						t.Fatalf("%q to %q to %q, by %s and %s", u, v, w, textOf(pair[0]), textOf(pair[1]))
					}
				}
			}
		}
	}
}

func TestEitherTransducerRelatesWhatIsTold(t *testing.T) {
	words := wordsUpTo(2)
	for _, pair := range machinePairs() {
		either, code := impl.EitherTransducer(pair[0], pair[1])
		if code != impl.OK {
			continue
		}
		for _, u := range words {
			for _, w := range words {
				yes, _ := impl.Relates(either, u, w)
				if want := naiveRelates(pair[0], u, w) || naiveRelates(pair[1], u, w); yes != want {
					t.Fatalf("%q to %q: %v, by %s or %s", u, w, yes, textOf(pair[0]), textOf(pair[1]))
				}
			}
		}
	}
}

// isJoined looks for places to cut both words.
func isJoined(s, x impl.Transducer, u, w string) bool {
	for i := range len(u) + 1 {
		for j := range len(w) + 1 {
			if naiveRelates(s, u[:i], w[:j]) && naiveRelates(x, u[i:], w[j:]) {
				return true
			}
		}
	}
	return false
}

func TestBehindTransducerRelatesWhatIsTold(t *testing.T) {
	words := wordsUpTo(2)
	for _, pair := range machinePairs() {
		behind, code := impl.BehindTransducer(pair[0], pair[1])
		if code != impl.OK {
			continue
		}
		for _, u := range words {
			for _, w := range words {
				yes, _ := impl.Relates(behind, u, w)
				if want := isJoined(pair[0], pair[1], u, w); yes != want {
					t.Fatalf("%q to %q: %v, by %s and then %s", u, w, yes, textOf(pair[0]), textOf(pair[1]))
				}
			}
		}
	}
}

// isRepeated cuts the first pieces, which are not both empty, off both words.
func isRepeated(x impl.Transducer, u, w string) bool {
	if u == "" && w == "" {
		return true
	}
	for i := range len(u) + 1 {
		for j := range len(w) + 1 {
			if i+j > 0 && naiveRelates(x, u[:i], w[:j]) && isRepeated(x, u[i:], w[j:]) {
				return true
			}
		}
	}
	return false
}

func TestRepeatTransducerRelatesWhatIsTold(t *testing.T) {
	words := wordsUpTo(3)
	for _, x := range someMachines() {
		repeat := madeMachine(t)(impl.RepeatTransducer(x))
		for _, u := range words {
			for _, w := range words {
				yes, _ := impl.Relates(repeat, u, w)
				if want := isRepeated(x, u, w); yes != want {
					t.Fatalf("%q to %q: %v, by %s again and again", u, w, yes, textOf(x))
				}
			}
		}
	}
}

// sized has so many states, all of which accept, and edges from the first one.
func sized(states, edges int, text string) impl.Transducer {
	return machineOf(0, strings.Repeat("y", states), slices.Repeat([]string{text}, edges)...)
}

// quiet has so many states, none of which accepts.
func quiet(states, edges int) impl.Transducer {
	return machineOf(0, strings.Repeat("n", states), slices.Repeat([]string{"0 0 a b"}, edges)...)
}

func TestLimitsOfJoinedTransducers(t *testing.T) {
	joins := allJoins()
	chain, either, behind := joins[0], joins[1], joins[2]
	for _, c := range []struct {
		what string
		join joinMachines
		s, x impl.Transducer
		code int64
	}{
		{"40 pairs", chain, sized(5, 0, ""), sized(8, 0, ""), impl.OK},
		{"40 pairs of one state", chain, sized(1, 0, ""), sized(40, 0, ""), impl.OK},
		{"42 pairs", chain, sized(6, 0, ""), sized(7, 0, ""), impl.ErrLimit},
		{"80 pairs", chain, sized(40, 0, ""), sized(2, 0, ""), impl.ErrLimit},
		{"200 edges of both", chain, sized(1, 10, "0 0 a b"), sized(1, 20, "0 0 b a"), impl.OK},
		{"204 edges of both", chain, sized(1, 12, "0 0 a b"), sized(1, 17, "0 0 b a"), impl.ErrLimit},
		{"200 edges of one", chain, sized(1, 200, "0 0 a -"), sized(1, 200, "0 0 b a"), impl.OK},
		{"201 edges of one", chain, sized(1, 200, "0 0 a -"), sized(1, 1, "0 0 - a"), impl.ErrLimit},
		{"200 edges of the other one", chain, sized(2, 0, ""), sized(1, 100, "0 0 - a"), impl.OK},
		{"202 edges of the other one", chain, sized(2, 0, ""), sized(1, 101, "0 0 - a"), impl.ErrLimit},
		{"no edge that fits", chain, sized(1, 200, "0 0 a b"), sized(1, 200, "0 0 a b"), impl.OK},
		{"edges from states that are not reached", chain, machineOf(0, "yy", "1 1 a -"), sized(1, 99, "0 0 - a"), impl.OK},
		{"too many edges from states that are not reached", chain, machineOf(0, "yy", "1 1 a -"), sized(1, 100, "0 0 - a"), impl.ErrLimit},
		{"39 states and a new one", either, sized(19, 0, ""), sized(20, 0, ""), impl.OK},
		{"40 states and a new one", either, sized(20, 0, ""), sized(20, 0, ""), impl.ErrLimit},
		{"198 edges and two new ones", either, sized(1, 100, "0 0 a b"), sized(1, 98, "0 0 a b"), impl.OK},
		{"199 edges and two new ones", either, sized(1, 100, "0 0 a b"), sized(1, 99, "0 0 a b"), impl.ErrLimit},
		{"40 states", behind, sized(20, 0, ""), sized(20, 0, ""), impl.OK},
		{"41 states", behind, sized(20, 0, ""), sized(21, 0, ""), impl.ErrLimit},
		{"39 states and 1", behind, sized(39, 0, ""), sized(1, 0, ""), impl.OK},
		{"197 edges and three between", behind, sized(3, 100, "0 0 a b"), quiet(2, 97), impl.OK},
		{"198 edges and three between", behind, sized(3, 100, "0 0 a b"), quiet(2, 98), impl.ErrLimit},
		{"200 edges and none between", behind, quiet(3, 100), sized(2, 100, "0 0 a b"), impl.OK},
		{"201 edges and none between", behind, quiet(3, 101), sized(2, 100, "0 0 a b"), impl.ErrLimit},
	} {
		got, code := c.join.join(c.s, c.x)
		if c.code != impl.OK {
			isNoMachine(t, c.what, got, code, c.code)
			continue
		}
		sameMachine(t, c.what, got, code, c.join.want(c.s, c.x))
	}
}

func TestLimitsOfRepeatedTransducers(t *testing.T) {
	for _, c := range []struct {
		what string
		x    impl.Transducer
		code int64
	}{
		{"39 states and a new one", quiet(39, 1), impl.OK},
		{"40 states and a new one", quiet(40, 1), impl.ErrLimit},
		{"199 edges and a new one", quiet(3, 199), impl.OK},
		{"200 edges and a new one", quiet(3, 200), impl.ErrLimit},
		{"196 edges, a new one, and three back", sized(3, 196, "0 0 a b"), impl.OK},
		{"197 edges, a new one, and three back", sized(3, 197, "0 0 a b"), impl.ErrLimit},
	} {
		got, code := impl.RepeatTransducer(c.x)
		if c.code != impl.OK {
			isNoMachine(t, c.what, got, code, c.code)
			continue
		}
		sameMachine(t, c.what, got, code, naiveRepeat(c.x))
	}
}

// ErrInvalid comes first, also if there would be too many states.
func TestErrorsOfJoinedTransducers(t *testing.T) {
	good := sized(40, 200, "0 0 a b")
	for _, x := range wrongMachines() {
		for _, join := range allJoins() {
			for _, pair := range [][2]impl.Transducer{{x, good}, {good, x}, {x, x}} {
				got, code := join.join(pair[0], pair[1])
				isNoMachine(t, join.name, got, code, impl.ErrInvalid)
			}
		}
		got, code := impl.RepeatTransducer(x)
		isNoMachine(t, "RepeatTransducer", got, code, impl.ErrInvalid)
	}
}
