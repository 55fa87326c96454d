package tests

import (
	"slices"
	"strings"
	"testing"

	"loop.example/g01168/impl"
)

// Promise 17, its first half: functional transducers and doubles.

// twoWays are the ends of two paths that read the same word, what each of them has
// written more than the other one, and whether they have written different letters.
type twoWays struct {
	p, q        int64
	left, right string
	apart       bool
}

// written returns the ends behind two edges, of which both or one is walked.
func (at twoWays) written(p, q int64, left, right string) twoWays {
	next := twoWays{p, q, at.left + left, at.right + right, at.apart}
	for next.left != "" && next.right != "" && !next.apart {
		next.apart = next.left[0] != next.right[0]
		next.left, next.right = next.left[1:], next.right[1:]
	}
	if next.apart {
		next.left, next.right = "", ""
	}
	return next
}

// behind returns the ends behind a further edge of one path, or of both if they read
// a letter.
func (at twoWays) behind(x impl.Transducer) []twoWays {
	var list []twoWays
	for _, e := range x.Edges {
		if e.From == at.p && e.In == "" {
			list = append(list, at.written(e.To, at.q, e.Out, ""))
		}
		if e.From == at.q && e.In == "" {
			list = append(list, at.written(at.p, e.To, "", e.Out))
		}
		for _, f := range x.Edges {
			if e.From == at.p && f.From == at.q && e.In != "" && e.In == f.In {
				list = append(list, at.written(e.To, f.To, e.Out, f.Out))
			}
		}
	}
	return list
}

// isDoubled looks for two paths that read the same word and write different ones,
// where none is more than so many letters ahead before they write different ones.
func isDoubled(x impl.Transducer, most int) bool {
	list := []twoWays{{p: x.Start, q: x.Start}}
	met := map[twoWays]bool{list[0]: true}
	for i := 0; i < len(list); i++ {
		at := list[i]
		if x.Accept[at.p] && x.Accept[at.q] && (at.apart || at.left != at.right) {
			return true
		}
		for _, next := range at.behind(x) {
			if len(next.left+next.right) <= most && !met[next] {
				met[next] = true
				list = append(list, next)
			}
		}
	}
	return false
}

// sparseMachine has few edges that write without reading, so it is often functional.
func sparseMachine(d *dice, states, edges int64) impl.Transducer {
	x := randomMachine(d, states, edges)
	for i := range x.Edges {
		if d.below(4) > 0 && x.Edges[i].In == "" {
			x.Edges[i].In = "ab"[i%2 : i%2+1]
		}
		if d.below(3) > 0 {
			x.Edges[i].Out = []string{"", "a"}[d.below(2)]
		}
	}
	return x
}

func functionalMachines() []impl.Transducer {
	list := someMachines()
	d := dice(641)
	for range 400 {
		states := 2 + d.below(3)
		list = append(list, sparseMachine(&d, states, states+d.below(states)))
	}
	return list
}

func TestIsFunctional(t *testing.T) {
	functional := 0
	for _, x := range functionalMachines() {
		want := !isDoubled(naiveTrim(x), 12)
		got, code := impl.IsFunctional(x)
		if code != impl.OK || got != want {
			t.Fatalf("IsFunctional: %v, %d, by %s", got, code, textOf(x))
		}
		if got {
			functional++
		}
	}
	if functional < 100 {
		t.Errorf("only %d transducers are functional", functional)
	}
}

// ahead has two ways to read so many letters and one more: on one of them it writes
// so many letters at once, on the other one it writes them later.
func ahead(n int, letters, later string) impl.Transducer {
	x := machineOf(0, "n")
	grow := func(from int, in, out string) int {
		x.Accept = append(x.Accept, false)
		x.Edges = append(x.Edges, impl.Edge{From: int64(from), To: int64(len(x.Accept) - 1), In: in, Out: out})
		return len(x.Accept) - 1
	}
	first, second := 0, 0
	for i := range n {
		first = grow(first, "a", letters[i:i+1])
		second = grow(second, "a", "")
	}
	x.Edges = append(x.Edges, impl.Edge{From: int64(first), To: int64(first), In: "a", Out: "b"}, impl.Edge{From: int64(second), To: int64(second), In: "a", Out: "b"})
	for i := range n {
		second = grow(second, "", later[i:i+1])
	}
	x.Accept[first], x.Accept[second] = true, true
	return x
}

func TestFunctionalTransducers(t *testing.T) {
	known := knownMachines()
	for i, c := range []struct {
		what string
		x    impl.Transducer
		yes  bool
	}{
		{"an image for each word", known[0], true},
		{"two images for the empty word", naiveTurn(known[0]), false},
		{"nothing", known[5], true},
		{"all words for each word", known[7], false},
		{"images that are written late", known[10], true},
		{"one image in two ways", machineOf(0, "nny", "0 1 a a", "0 2 a a", "1 2 - -", "2 2 - -", "1 1 - -"), true},
		{"two images in one way each", machineOf(0, "nny", "0 1 a a", "0 2 a a", "1 2 - b"), false},
		{"a second image that is not accepted", machineOf(0, "nyn", "0 1 a a", "0 2 a b"), true},
		{"a second image in a state that is not reached", machineOf(0, "nyy", "0 1 a a", "2 1 a b", "2 2 - b"), true},
		{"one image is empty", machineOf(0, "yy", "0 1 - b"), false},
		{"one begins the other one", machineOf(0, "nyy", "0 1 a b", "1 2 - b"), false},
		{"circles that write the same", machineOf(0, "nnny", "0 1 a a", "0 2 a -", "1 1 a a", "2 2 a a", "1 3 b -", "2 3 b a"), true},
		{"circles that write others", machineOf(0, "nnny", "0 1 a a", "0 2 a -", "1 1 a b", "2 2 a b", "1 3 b -", "2 3 b a"), false},
		{"circles of which one writes nothing", machineOf(0, "nny", "0 1 a -", "0 2 a -", "1 1 a a", "2 2 a -", "1 2 b -"), true},
		{"circles of which one writes more", machineOf(0, "nny", "0 1 a -", "0 2 a -", "1 1 a a", "2 2 a -", "1 2 a -"), false},
		{"a circle that writes without reading, not accepted", machineOf(0, "yn", "0 0 a b", "0 1 - a", "1 1 - b"), true},
		{"a circle that writes without reading", machineOf(0, "ny", "0 1 a -", "1 1 - b"), false},
		{"a circle that reads and writes nothing", machineOf(0, "y", "0 0 - -", "0 0 a b"), true},
		{"two edges that differ in what they write", machineOf(0, "ny", "0 1 a a", "0 1 a b"), false},
		{"an edge that comes twice", machineOf(0, "ny", "0 1 a a", "0 1 a a"), true},
		{"far ahead", ahead(13, "abaabbbaaabab", "abaabbbaaabab"), false},
		{"far ahead with the same letters", ahead(13, "bbbbbbbbbbbbb", "bbbbbbbbbbbbb"), true},
		{"far ahead with another letter", ahead(13, "bbbbbbbbbbbbb", "bbbbbbbbbbbba"), false},
	} {
		got, code := impl.IsFunctional(c.x)
		equal(t, c.what, []any{got, code}, []any{c.yes, int64(impl.OK)})
		if i < 20 {
			equal(t, c.what+", by two paths", !isDoubled(naiveTrim(c.x), 12), c.yes)
		}
	}
	got, code := impl.IsFunctional(fullMachine())
	equal(t, "the full one", []any{got, code}, []any{false, int64(impl.OK)})
	for _, x := range wrongMachines() {
		got, code := impl.IsFunctional(x)
		equal(t, "IsFunctional", []any{got, code}, []any{false, int64(impl.ErrInvalid)})
	}
}

// Many states that lead back and forth, but still one image for each word.
func TestLargeFunctionalTransducers(t *testing.T) {
	x := machineOf(0, strings.Repeat("y", impl.MaxMachine))
	for p := range int64(impl.MaxMachine) {
		for _, step := range []int64{1, 7, 11, 39} {
			x.Edges = append(x.Edges, impl.Edge{From: p, To: (p + step) % impl.MaxMachine, In: "ab"[p%2 : p%2+1], Out: "a"})
		}
	}
	got, code := impl.IsFunctional(x)
	equal(t, "IsFunctional", []any{got, code}, []any{true, int64(impl.OK)})
	x.Edges = append(x.Edges, impl.Edge{From: 39, To: 0, In: "b", Out: "b"})
	got, code = impl.IsFunctional(x)
	equal(t, "with one edge more", []any{got, code}, []any{false, int64(impl.OK)})
	x.Edges[len(x.Edges)-1].In = ""
	got, code = impl.IsFunctional(x)
	equal(t, "with another edge more", []any{got, code}, []any{false, int64(impl.OK)})
}

// naiveDouble returns the first word with two images, and the first two of these.
func naiveDouble(x impl.Transducer, length int) []string {
	for _, u := range wordsUpTo(length) {
		if images := naiveImages(x, u, impl.MaxImage); len(images) > 1 {
			return []string{u, images[0], images[1]}
		}
	}
	return nil
}

func TestFirstDouble(t *testing.T) {
	found := map[int]int{}
	for _, x := range functionalMachines() {
		functional, _ := impl.IsFunctional(x)
		for _, length := range []int64{0, 2, 4} {
			want := naiveDouble(x, int(length))
			u, v, w, code := impl.FirstDouble(x, length)
			if want == nil {
				equal(t, "no double of "+textOf(x), []any{u, v, w, code}, []any{"", "", "", int64(impl.ErrNotFound)})
				continue
			}
			if code != impl.OK || !slices.Equal([]string{u, v, w}, want) {
				t.Fatalf("FirstDouble: %q, %q, %q, %d, but it is %q, by %s", u, v, w, code, want, textOf(x))
			}
			if functional {
				t.Fatalf("%q has the images %q and %q, by %s", u, v, w, textOf(x))
			}
			found[len(u)]++
		}
	}
	if found[0] < 10 || found[1] < 10 || found[2] < 10 || found[3]+found[4] == 0 {
		t.Errorf("doubles have so many letters: %v", found)
	}
}

// chained has a path that reads and writes so many letters.
func chained(in, out string) impl.Transducer {
	x := machineOf(0, "n")
	for i := range max(len(in), len(out)) {
		e := impl.Edge{From: int64(i), To: int64(i + 1)}
		if i < len(in) {
			e.In = in[i : i+1]
		}
		if i < len(out) {
			e.Out = out[i : i+1]
		}
		x.Accept = append(x.Accept, false)
		x.Edges = append(x.Edges, e)
	}
	x.Accept[len(x.Accept)-1] = true
	return x
}

func TestDoublesWithinLimits(t *testing.T) {
	long := "abababbbbb"
	doubled := func(in, out, other string) impl.Transducer {
		return naiveEither(chained(in, out), chained(in, other))
	}
	for _, c := range []struct {
		what   string
		x      impl.Transducer
		length int64
		want   []string
	}{
		{"four letters", doubled("abba", "a", "b"), 4, []string{"abba", "a", "b"}},
		{"three letters are too few", doubled("abba", "a", "b"), 3, nil},
		{"five letters", doubled("abbaa", "a", "b"), 4, nil},
		{"MaxImage letters", doubled("a", long, "b"), 1, []string{"a", "b", long}},
		{"MaxImage letters twice", doubled("a", long, "b"+long[1:]), 1, []string{"a", long, "b" + long[1:]}},
		{"more than MaxImage letters", doubled("a", long+"a", "b"), 4, nil},
		{"more than MaxImage letters twice", doubled("a", long+"a", "b"+long), 4, nil},
		{"the empty image", doubled("b", "", "b"), 1, []string{"b", "", "b"}},
		{"the empty word", doubled("", "bb", "aaa"), 0, []string{"", "bb", "aaa"}},
		{"one image in two ways", doubled("a", "ab", "ab"), 4, nil},
		{"the first one of several words", naiveEither(doubled("bb", "a", "b"), doubled("ba", "b", "aa")), 4, []string{"ba", "b", "aa"}},
		{"the first two of several images", naiveEither(doubled("a", "ba", "bb"), doubled("a", "aa", "ab")), 4, []string{"a", "aa", "ab"}},
		{"a shorter word with later images", naiveEither(doubled("b", "bbbb", "bbba"), doubled("aa", "a", "b")), 4, []string{"b", "bbba", "bbbb"}},
		{"an image beside too long ones", naiveEither(doubled("", long+"a", long+"b"), chained("", "b")), 4, nil},
	} {
		u, v, w, code := impl.FirstDouble(c.x, c.length)
		if c.want == nil {
			equal(t, c.what, []any{u, v, w, code}, []any{"", "", "", int64(impl.ErrNotFound)})
			continue
		}
		equal(t, c.what, []any{u, v, w, code}, []any{c.want[0], c.want[1], c.want[2], int64(impl.OK)})
	}
	for _, words := range [][3]string{{"abbaa", "a", "b"}, {"a", long + "a", "b"}} {
		got, _ := impl.IsFunctional(doubled(words[0], words[1], words[2]))
		equal(t, "functional", got, false)
	}
}

func TestErrorsOfFirstDouble(t *testing.T) {
	x := naiveTurn(knownMachines()[0])
	for _, length := range []int64{-1, 5, 1 << 62, -1 << 63} {
		u, v, w, code := impl.FirstDouble(x, length)
		equal(t, "FirstDouble", []any{u, v, w, code}, []any{"", "", "", int64(impl.ErrRange)})
		_, _, _, code = impl.FirstDouble(wrongMachines()[4], length)
		equal(t, "a transducer, and a length", code, int64(impl.ErrInvalid))
	}
	for _, x := range wrongMachines() {
		u, v, w, code := impl.FirstDouble(x, 2)
		equal(t, "FirstDouble", []any{u, v, w, code}, []any{"", "", "", int64(impl.ErrInvalid)})
	}
}
