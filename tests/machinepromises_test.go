package tests

import (
	"math"
	"reflect"
	"slices"
	"strings"
	"testing"

	"loop.example/g01168/impl"
)

// Promise 1 for the functions of chapter 6.

// callsOfChapter6 calls every function that is given transducers.
func callsOfChapter6(x, y impl.Transducer, u, w string, n int64, text string) []call {
	var calls []call
	add := func(name string, results ...any) { calls = append(calls, call{name, results}) }
	read, code := impl.ReadTransducer(text)
	add("ReadTransducer", read, code)
	yes, code := impl.Relates(x, u, w)
	add("Relates", yes, code)
	images, code := impl.ImagesOf(x, u, n)
	add("ImagesOf", images, code)
	for _, join := range allJoins() {
		made, code := join.join(x, y)
		add(join.name, made, code)
	}
	for _, f := range []struct {
		name string
		make func(x impl.Transducer) (impl.Transducer, int64)
	}{{"TurnTransducer", impl.TurnTransducer}, {"RepeatTransducer", impl.RepeatTransducer}, {"TrimTransducer", impl.TrimTransducer}} {
		made, code := f.make(x)
		add(f.name, made, code)
	}
	for _, f := range []struct {
		name string
		make func(x impl.Transducer) (impl.Relation, int64)
	}{{"InputsOf", impl.InputsOf}, {"OutputsOf", impl.OutputsOf}, {"RelationOfTransducer", impl.RelationOfTransducer}} {
		made, code := f.make(x)
		add(f.name, made, code)
	}
	yes, code = impl.IsFunctional(x)
	add("IsFunctional", yes, code)
	yes, code = impl.IsBalanced(x)
	add("IsBalanced", yes, code)
	one, two, three, code := impl.FirstDouble(x, n)
	add("FirstDouble", one, two, three, code)
	least, most, code := impl.LagsOf(x)
	add("LagsOf", least, most, code)
	return calls
}

// looksAt calls the functions of chapter 6 that have no code.
func looksAt(x, y impl.Transducer) []any {
	return []any{impl.ValidTransducer(x), impl.SameTransducer(x, y), impl.TransducerText(x)}
}

func roomyMachine(x impl.Transducer) impl.Transducer {
	room := impl.Edge{From: 7, To: 8, In: "unused", Out: "room"}
	return impl.Transducer{Start: x.Start, Accept: withRoom(x.Accept, true, false, true), Edges: withRoom(x.Edges, room, room)}
}

// everythingAt copies a transducer with all unused capacity.
func everythingAt(x impl.Transducer) []any { return []any{x.Start, roomOf(x.Accept), roomOf(x.Edges)} }

// promisedMachines are transducers of all kinds, not all of them valid.
func promisedMachines() []impl.Transducer {
	d := dice(659)
	list := slices.Concat(someMachines()[:40], wrongMachines(), []impl.Transducer{fullMachine(), pathOf("a b", 2), circlesWith(2, "ab", 3, 4)})
	for range 20 {
		states := 1 + d.below(2)
		list = append(list, evenMachine(&d, states, 1+d.below(3)))
	}
	return list
}

func TestTransducersAreNotModified(t *testing.T) {
	list := promisedMachines()
	for i, x := range list {
		one, two := roomyMachine(x), roomyMachine(list[(i+1)%len(list)])
		before := [][]any{everythingAt(one), everythingAt(two)}
		callsOfChapter6(one, two, "ab", "b", 3, "transducer 1 0\nyes\n")
		callsOfChapter6(one, one, "", "a", 2, "")
		looksAt(one, two)
		equal(t, "arguments", [][]any{everythingAt(one), everythingAt(two)}, before)
	}
	for _, r := range []impl.Relation{impl.SuccessorRelation(), everything(2), nothing(2), ring(3)} {
		one := roomyRelation(r)
		before := everythingIn(one)
		impl.TransducerOf(one)
		equal(t, "relation", everythingIn(one), before)
	}
}

func TestEqualTransducersHaveEqualResults(t *testing.T) {
	list := promisedMachines()
	for i, x := range list {
		y := list[(i+1)%len(list)]
		one := callsOfChapter6(x, y, "ab", "b", 3, "transducer 1 0\nyes\n")
		two := callsOfChapter6(roomyMachine(x), copyOfMachine(y), "ab", "b", 3, "transducer 1 0\nyes\n")
		if !reflect.DeepEqual(one, two) {
			t.Fatalf("%v and then %v", one, two)
		}
		equal(t, "looks", looksAt(roomyMachine(x), y), looksAt(x, copyOfMachine(y)))
	}
	one, two := machineOf(0, "y"), impl.Transducer{Accept: []bool{true}, Edges: []impl.Edge{}}
	equal(t, "nil and empty", callsOfChapter6(one, two, "", "", 1, ""), callsOfChapter6(two, one, "", "", 1, ""))
	equal(t, "nil and empty", looksAt(one, two), looksAt(two, one))
	three, four := impl.Transducer{}, impl.Transducer{Accept: []bool{}, Edges: []impl.Edge{}}
	equal(t, "nil and empty", callsOfChapter6(three, one, "", "", 1, ""), callsOfChapter6(four, one, "", "", 1, ""))
}

// spoilMachine overwrites all that can be reached from slices, and what is behind them.
func spoilMachine(x impl.Transducer) {
	for i := range x.Accept[:cap(x.Accept)] {
		x.Accept[:cap(x.Accept)][i] = !x.Accept[:cap(x.Accept)][i]
	}
	for i := range x.Edges[:cap(x.Edges)] {
		x.Edges[:cap(x.Edges)][i] = impl.Edge{From: -7, To: -8, In: "spoiled", Out: "too"}
	}
}

func TestResultsOfChapter6ShareNoMemory(t *testing.T) {
	for _, x := range promisedMachines() {
		kept := copyOfMachine(x)
		calls := func() []call { return callsOfChapter6(x, x, "ab", "b", 3, textOf(kept)) }
		first, second := calls(), calls()
		for i, c := range first {
			switch made := c.results[0].(type) {
			case impl.Transducer:
				spoilMachine(made)
			case impl.Relation:
				if len(made.Next) > 0 {
					rowsAreApart(t, made)
				}
				spoil(made)
			case []string:
				for k := range made[:cap(made)] {
					made[:cap(made)][k] = "spoiled"
				}
			}
			equal(t, c.name+": argument", x, kept)
			equal(t, c.name+": another result", first[i+1:], second[i+1:])
		}
		equal(t, "later results", calls(), second)
	}
	r := impl.SuccessorRelation()
	one, _ := impl.TransducerOf(r)
	spoilMachine(one)
	two, _ := impl.TransducerOf(r)
	three, _ := impl.TransducerOf(impl.SuccessorRelation())
	equal(t, "TransducerOf", []any{r, two}, []any{impl.SuccessorRelation(), three})
}

func TestInvalidTransducersAreToldFirst(t *testing.T) {
	good := machineOf(0, "y", "0 0 a b")
	for _, x := range wrongMachines() {
		for _, calls := range [][]call{
			callsOfChapter6(x, good, "a", "b", 2, ""), callsOfChapter6(x, x, "c", "b", -5, ""), callsOfChapter6(x, fullMachine(), "a", strings.Repeat("a", 50), math.MaxInt64, ""),
		} {
			for _, c := range calls {
				if c.name != "ReadTransducer" {
					equal(t, c.name, c.results[len(c.results)-1], int64(impl.ErrInvalid))
				}
			}
		}
	}
}

// Whatever the arguments are, results with an error are empty.
func TestResultsOfChapter6WithErrorsAreZero(t *testing.T) {
	list := append(promisedMachines(), someMachines()...)
	numbers := []int64{0, 1, 2, 4, 5, -1, impl.MaxImage, impl.MaxImage + 1, math.MaxInt64, math.MinInt64}
	words := []string{"", "a", "abba", "c", strings.Repeat("ab", 20), strings.Repeat("b", 41)}
	for i, x := range list {
		y := list[(i*7+3)%len(list)]
		for _, c := range callsOfChapter6(x, y, words[i%len(words)], words[(i/2)%len(words)], numbers[i%len(numbers)], textOf(x)+words[i%len(words)]) {
			last := len(c.results) - 1
			for _, result := range c.results[:last] {
				if c.results[last] != int64(impl.OK) && !isZero(result) {
					if machine, ok := result.(impl.Transducer); !ok || !impl.SameTransducer(machine, impl.Transducer{}) {
						t.Errorf("%s returns %v", c.name, c.results)
					}
				}
			}
		}
	}
}

func TestLargeArgumentsOfChapter6(t *testing.T) {
	const many = 1000000
	for _, x := range []impl.Transducer{
		{Accept: make([]bool, many)},
		{Accept: []bool{true}, Edges: make([]impl.Edge, many)},
		{Accept: []bool{true}, Edges: []impl.Edge{{In: strings.Repeat("a", many)}}},
		{Accept: []bool{true}, Edges: []impl.Edge{{Out: strings.Repeat("b", many)}}},
		machineOf(0, "y", "0 0 a b"),
	} {
		for _, text := range []string{strings.Repeat("a", many), strings.Repeat("\n", impl.MaxText), strings.Repeat(" ", impl.MaxText), strings.Repeat("0 0 a b\n", impl.MaxText/8), strings.Repeat("yes\n", impl.MaxText/4)} {
			for _, c := range callsOfChapter6(x, x, text, "", math.MaxInt64, text) {
				if c.name == "Relates" || c.name == "ImagesOf" {
					equal(t, c.name, c.results[1], int64(impl.ErrInvalid))
				}
			}
		}
		looksAt(x, x)
	}
}

// The largest transducers that are valid, with the longest words.
func TestLargestTransducers(t *testing.T) {
	long := strings.Repeat("ab", impl.MaxWord/2)
	d := dice(661)
	ladder := machineOf(0, strings.Repeat("n", 39)+"y")
	for i := range int64(39) {
		for _, side := range []string{"a", "b"} {
			ladder.Edges = append(ladder.Edges, impl.Edge{From: i, To: i + 1, In: side}, impl.Edge{From: i, To: i + 1, Out: side})
		}
		ladder.Edges = append(ladder.Edges, silent(int(i), int(i)+1))
	}
	// All words may have been written all the time, but none of them comes to an end.
	endless := copyOfMachine(ladder)
	endless.Accept[39] = false
	for _, x := range []impl.Transducer{ladder, endless, fullMachine(), randomMachine(&d, 40, 200), randomMachine(&d, 1, 200), evenMachine(&d, 40, 200)} {
		for _, u := range []string{long, strings.Repeat("a", impl.MaxWord), ""} {
			for _, c := range callsOfChapter6(x, x, u, u, 4, textOf(x)) {
				if c.name == "FirstDouble" && reflect.DeepEqual(x, endless) {
					equal(t, c.name, c.results[3], int64(impl.ErrNotFound))
				}
			}
			impl.ImagesOf(x, u, impl.MaxImage)
		}
	}
	least, most, code := impl.LagsOf(ladder)
	equal(t, "LagsOf", []int64{least, most, code}, []int64{-39, 39, impl.OK})
}
