package tests

import (
	"slices"
	"testing"

	"loop.example/g01168/impl"
)

const refusedBy = -1

// scribeOf makes a scribe: yes tells with "y" and "n" which states accept, and each
// state has four texts, where "a" leads and what is written, and the same for "b",
// "-" standing for both if a letter is refused.
func scribeOf(yes string, rows ...[4]string) impl.Scribe {
	var x impl.Scribe
	for i, row := range rows {
		next, out := [2]int64{}, [2]string{}
		for letter := range next {
			next[letter], out[letter] = refusedBy, ""
			if row[2*letter] != "-" {
				next[letter], out[letter] = int64(row[2*letter][0]-'0'), row[2*letter+1]
			}
		}
		x.Accept = append(x.Accept, yes[i] == 'y')
		x.Next = append(x.Next, next)
		x.Out = append(x.Out, out)
	}
	return x
}

// randomScribe refuses a letter now and then.
func randomScribe(d *dice, states int64) impl.Scribe {
	var x impl.Scribe
	for range states {
		next, out := [2]int64{}, [2]string{}
		for letter := range next {
			next[letter], out[letter] = d.below(states), string("ab"[d.below(2)])
			if d.below(5) == 0 {
				next[letter], out[letter] = refusedBy, ""
			}
		}
		x.Accept = append(x.Accept, d.below(2) == 0)
		x.Next = append(x.Next, next)
		x.Out = append(x.Out, out)
	}
	return x
}

// longScribe goes around n states with both letters, and writes them, but for the
// first one, where it writes "b". It accepts in the first one alone.
func longScribe(n int64) impl.Scribe {
	x := impl.Scribe{Accept: make([]bool, n)}
	x.Accept[0] = true
	for s := range n {
		next := (s + 1) % n
		x.Next = append(x.Next, [2]int64{next, next})
		x.Out = append(x.Out, [2]string{"a", "b"})
	}
	x.Out[0][0] = "b"
	return x
}

func copyOfScribe(x impl.Scribe) impl.Scribe {
	return impl.Scribe{Accept: slices.Clone(x.Accept), Next: slices.Clone(x.Next), Out: slices.Clone(x.Out)}
}

// naiveRun writes for each letter that is read, and tells whether there is something
// to write for all of them, up to an end.
func naiveRun(x impl.Scribe, u string) (string, bool) {
	state, written := int64(0), ""
	for _, letter := range u {
		at := letter - 'a'
		if x.Next[state][at] == refusedBy {
			return "", false
		}
		written += x.Out[state][at]
		state = x.Next[state][at]
	}
	if !x.Accept[state] {
		return "", false
	}
	return written, true
}

// naiveScribeRelation is an automaton of any size for what a scribe writes.
func naiveScribeRelation(x impl.Scribe) impl.Relation {
	return byLetters(slices.Clone(x.Accept), func(state, in, out int64) int64 {
		if x.Out[state][in] != "ab"[out:out+1] {
			return -1
		}
		return x.Next[state][in]
	})
}

// naiveScribe is the scribe of a letterwise function, as the document tells it. (Its
// states are numbered by what they lead to, so another order of those of the tidy
// relation does not matter.)
func naiveScribe(f impl.Relation) impl.Scribe {
	tidy := naiveTidy(f)
	dead := deadStates(tidy)
	met := []int64{tidy.Start}
	var x impl.Scribe
	for i := 0; i < len(met); i++ {
		next, out := [2]int64{refusedBy, refusedBy}, [2]string{}
		for in := range int64(2) {
			for written := range int64(2) {
				to := tidy.Next[met[i]][in+3*written]
				if dead[to] {
					continue
				}
				if !slices.Contains(met, to) {
					met = append(met, to)
				}
				next[in], out[in] = int64(slices.Index(met, to)), "ab"[written:written+1]
			}
		}
		x.Accept = append(x.Accept, tidy.Accept[met[i]])
		x.Next = append(x.Next, next)
		x.Out = append(x.Out, out)
	}
	return x
}

// sameScribe compares what ScribeOf has returned with a scribe.
func sameScribe(t *testing.T, what string, got impl.Scribe, code int64, want impl.Scribe) {
	t.Helper()
	if code != impl.OK || !impl.ValidScribe(got) {
		t.Fatalf("%s: %v, %d", what, got, code)
	}
	equal(t, what, got, want)
}

// isNoScribe looks for an error.
func isNoScribe(t *testing.T, what string, got impl.Scribe, code, want int64) {
	t.Helper()
	equal(t, what, code, want)
	equal(t, what+" is empty", impl.SameScribe(got, impl.Scribe{}), true)
}

// wrongScribes are scribes that are not valid, each for another reason.
func wrongScribes() []impl.Scribe {
	list := []impl.Scribe{{}, {Accept: []bool{true}}, {Next: make([][2]int64, 1), Out: [][2]string{{"a", "b"}}}, longScribe(impl.MaxScribe + 1)}
	change := func(f func(x *impl.Scribe)) {
		x := scribeOf("yn", [4]string{"1", "b", "0", "a"}, [4]string{"-", "-", "1", "b"})
		f(&x)
		list = append(list, x)
	}
	change(func(x *impl.Scribe) { x.Accept = nil })
	change(func(x *impl.Scribe) { x.Accept = x.Accept[:1] })
	change(func(x *impl.Scribe) { x.Accept = append(x.Accept, true) })
	change(func(x *impl.Scribe) { x.Next = nil })
	change(func(x *impl.Scribe) { x.Next = x.Next[:1] })
	change(func(x *impl.Scribe) { x.Next = append(x.Next, [2]int64{0, 0}) })
	change(func(x *impl.Scribe) { x.Out = nil })
	change(func(x *impl.Scribe) { x.Out = x.Out[:1] })
	change(func(x *impl.Scribe) { x.Out = append(x.Out, [2]string{"a", "b"}) })
	for _, next := range []int64{-2, 2, 1 << 62, -1 << 63} {
		change(func(x *impl.Scribe) { x.Next[0][0] = next })
		change(func(x *impl.Scribe) { x.Next[1][1] = next })
		change(func(x *impl.Scribe) { x.Next[1][0] = next })
	}
	for _, out := range []string{"c", "#", "-", "ab", "aa", "A", " ", "a "} {
		change(func(x *impl.Scribe) { x.Out[0][1] = out })
		change(func(x *impl.Scribe) { x.Out[1][1] = out })
		change(func(x *impl.Scribe) { x.Out[1][0] = out })
	}
	change(func(x *impl.Scribe) { x.Out[0][0] = "" })
	change(func(x *impl.Scribe) { x.Out[1][1] = "" })
	change(func(x *impl.Scribe) { x.Next[0][0] = refusedBy })
	change(func(x *impl.Scribe) { x.Next[1][1] = refusedBy })
	change(func(x *impl.Scribe) { x.Next[1][0] = 0 })
	change(func(x *impl.Scribe) { x.Out[1][0] = "a" })
	return list
}
