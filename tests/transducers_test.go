package tests

import (
	"reflect"
	"slices"
	"strconv"
	"strings"
	"testing"

	"loop.example/g01168/impl"
)

// Promise 14, and the texts of transducers.

// textOf writes the text of a transducer as the document tells.
func textOf(x impl.Transducer) string {
	number := func(n int64) string { return strconv.FormatInt(n, 10) }
	lines := []string{"transducer " + strconv.Itoa(len(x.Accept)) + " " + number(x.Start)}
	for _, accepts := range x.Accept {
		lines = append(lines, map[bool]string{true: "yes", false: "no"}[accepts])
	}
	word := map[string]string{"": "-", "a": "a", "b": "b"}
	for _, e := range x.Edges {
		lines = append(lines, strings.Join([]string{number(e.From), number(e.To), word[e.In], word[e.Out]}, " "))
	}
	return strings.Join(lines, "\n") + "\n"
}

func TestValidTransducers(t *testing.T) {
	list := append(someMachines(), fullMachine(), machineOf(39, strings.Repeat("n", impl.MaxMachine)))
	for _, x := range list {
		equal(t, "ValidTransducer of "+textOf(x), impl.ValidTransducer(x), true)
	}
	for _, x := range wrongMachines() {
		if impl.ValidTransducer(x) {
			t.Errorf("%v is valid", x)
		}
		equal(t, "TransducerText", impl.TransducerText(x), "")
	}
}

func TestTextsOfTransducers(t *testing.T) {
	for _, x := range append(someMachines(), fullMachine()) {
		text := impl.TransducerText(x)
		equal(t, "TransducerText", text, textOf(x))
		back, code := impl.ReadTransducer(text)
		sameMachine(t, "ReadTransducer", back, code, x)
	}
	equal(t, "text", impl.TransducerText(machineOf(1, "yn", "0 1 a -", "1 1 - b")), "transducer 2 1\nyes\nno\n0 1 a -\n1 1 - b\n")
}

func TestTextsThatAreNoTransducers(t *testing.T) {
	const good = "transducer 2 1\nyes\nno\n0 1 a -\n1 0 - b\n"
	_, code := impl.ReadTransducer(good)
	equal(t, "the text itself", code, int64(impl.OK))
	list := []string{
		"", "\n", "transducer", "transducer\n", "transducer 0 0\n", "transducer 1 0\n", "transducer 2 0\nyes\n", "transducer 1 0\nyes\nno\n", "transducer 1\nyes\n",
		"transducer 1 0 0\nyes\n", "transducer 1 0\n0 0 a a\nyes\n", "0 0 a a\n", "yes\n",
		strings.TrimSuffix(good, "\n"), good + "\n", "\n" + good, " " + good, good + " ", good + good, good + "yes\n", good + "no", good + "0 1 a\n", good + "0\n",
	}
	for _, change := range [][2]string{
		{"transducer", "Transducer"}, {"transducer", "transducers"}, {"transducer", "relation"}, {"transducer ", "transducer  "}, {"transducer ", ""}, {"transducer", ""},
		{"2 1\n", "2 1 \n"}, {"2 1\n", "2\t1\n"}, {"2 1\n", "02 1\n"}, {"2 1\n", "+2 1\n"}, {"2 1\n", "2 +1\n"}, {"2 1\n", "2 01\n"}, {"2 1\n", "2 -0\n"}, {"2 1\n", "2 -1\n"},
		{"2 1\n", "2 2\n"}, {"2 1\n", "3 1\n"}, {"2 1\n", "1 1\n"}, {"2 1\n", "-2 1\n"}, {"2 1\n", "2 x\n"}, {"2 1\n", "2 18446744073709551617\n"}, {"2 1\n", "18446744073709551618 1\n"},
		{"yes", "Yes"}, {"yes", "true"}, {"yes", " yes"}, {"yes", "yes "}, {"yes", ""}, {"no", "not"}, {"no\n", "no\n\n"}, {"yes\n", ""}, {"no\n0 1 a -\n", "0 1 a -\nno\n"},
		{"0 1 a -", "0  1 a -"}, {"0 1 a -", " 0 1 a -"}, {"0 1 a -", "0 1 a - "}, {"0 1 a -", "0 1 a  -"}, {"0 1 a -", "0\t1 a -"}, {"0 1 a -", "0 1 a"}, {"0 1 a -", "0 1 a - -"},
		{"0 1 a -", "0 1 a "}, {"0 1 a -", "0 1  -"}, {"0 1 a -", "0 1 -"}, {"0 1 a -", "1 a -"}, {"0 1 a -", "0 1 c -"}, {"0 1 a -", "0 1 a --"}, {"0 1 a -", "0 1 -a -"}, {"0 1 a -", "0 1 a -b"},
		{"0 1 a -", "0 1 aa -"}, {"0 1 a -", "0 1 a ab"}, {"0 1 a -", "0 1 A -"}, {"0 1 a -", "0 1 a #"}, {"0 1 a -", "00 1 a -"}, {"0 1 a -", "0 01 a -"}, {"0 1 a -", "+0 1 a -"},
		{"0 1 a -", "0 +1 a -"}, {"0 1 a -", "-0 1 a -"}, {"0 1 a -", "-1 1 a -"}, {"0 1 a -", "0 2 a -"}, {"0 1 a -", "2 1 a -"}, {"0 1 a -", "0x0 1 a -"}, {"0 1 a -", "0 1.0 a -"},
		{"0 1 a -", "0 1_0 a -"}, {"0 1 a -", "a 1 a -"}, {"0 1 a -", "0 18446744073709551617 a -"}, {"0 1 a -", "18446744073709551616 1 a -"}, {"0 1 a -", "edge 0 1 a -"}, {"\n", "\r\n"},
	} {
		changed := strings.Replace(good, change[0], change[1], 1)
		if changed == good {
			t.Fatalf("%q is not there", change[0])
		}
		list = append(list, changed)
	}
	for _, text := range list {
		x, code := impl.ReadTransducer(text)
		isNoMachine(t, strconv.Quote(text), x, code, impl.ErrSyntax)
	}
}

func TestLimitsOfTexts(t *testing.T) {
	head := func(states int) string {
		return "transducer " + strconv.Itoa(states) + " 0\n" + strings.Repeat("no\n", states)
	}
	edges := func(n int) string { return strings.Repeat("0 0 a b\n", n) }
	for _, c := range []struct {
		what, text string
		code       int64
	}{
		{"MaxMachine states", head(impl.MaxMachine), impl.OK},
		{"one state more", head(impl.MaxMachine + 1), impl.ErrSyntax},
		{"MaxEdges edges", head(1) + edges(impl.MaxEdges), impl.OK},
		{"one edge more", head(1) + edges(impl.MaxEdges+1), impl.ErrSyntax},
		{"MaxText bytes", strings.Repeat("0 0 a b\n", impl.MaxText/8), impl.ErrSyntax},
		{"one byte more", strings.Repeat("0 0 a b\n", impl.MaxText/8) + "\n", impl.ErrRange},
		{"far more states than lines", "transducer 9000000000000000000 0\n", impl.ErrSyntax},
	} {
		_, code := impl.ReadTransducer(c.text)
		equal(t, c.what, code, c.code)
	}
}

func TestSameTransducers(t *testing.T) {
	list := append(knownMachines(), wrongMachines()...)
	for i, x := range list {
		equal(t, "SameTransducer of a copy", impl.SameTransducer(x, copyOfMachine(x)), true)
		for _, y := range list[:i] {
			equal(t, "SameTransducer", impl.SameTransducer(x, y), reflect.DeepEqual(x, y))
		}
	}
	empty := impl.Transducer{Accept: []bool{}, Edges: []impl.Edge{}}
	equal(t, "nil and empty", impl.SameTransducer(empty, impl.Transducer{}), true)
	x := machineOf(0, "yy", "0 1 a b", "1 0 a b")
	for i, change := range []func(y *impl.Transducer){
		func(y *impl.Transducer) { y.Start = 1 },
		func(y *impl.Transducer) { y.Accept[1] = false },
		func(y *impl.Transducer) { y.Accept = append(y.Accept, true) },
		func(y *impl.Transducer) { y.Edges[0].From = 1 },
		func(y *impl.Transducer) { y.Edges[0].To = 0 },
		func(y *impl.Transducer) { y.Edges[1].In = "b" },
		func(y *impl.Transducer) { y.Edges[1].Out = "" },
		func(y *impl.Transducer) { slices.Reverse(y.Edges) },
		func(y *impl.Transducer) { y.Edges = y.Edges[:1] },
	} {
		y := copyOfMachine(x)
		change(&y)
		if impl.SameTransducer(x, y) || impl.SameTransducer(y, x) {
			t.Errorf("change %d is not seen", i)
		}
	}
}

func TestRelates(t *testing.T) {
	words := wordsUpTo(3)
	for _, x := range someMachines() {
		turned := madeMachine(t)(impl.TurnTransducer(x))
		for _, u := range words {
			for _, w := range words {
				want := naiveRelates(x, u, w)
				yes, code := impl.Relates(x, u, w)
				if code != impl.OK || yes != want {
					t.Fatalf("%q to %q: %v, %d, by %s", u, w, yes, code, textOf(x))
				}
				if back, _ := impl.Relates(turned, w, u); back != want {
					t.Fatalf("%q to %q is turned to %v, by %s", u, w, back, textOf(x))
				}
			}
		}
	}
}

func TestRelatesLongWords(t *testing.T) {
	long := strings.Repeat("ab", impl.MaxWord/2)
	known := knownMachines()
	same, anything, twice, half := known[2], known[7], known[8], known[9]
	for _, c := range []struct {
		what string
		x    impl.Transducer
		u, w string
		yes  bool
	}{
		{"the same", same, long, long, true},
		{"all but the last letter", same, long, long[:impl.MaxWord-1], false},
		{"another last letter", same, long, long[:impl.MaxWord-1] + "a", false},
		{"another first letter", same, long, "b" + long[1:], false},
		{"anything", anything, long, long, true},
		{"anything and nothing", anything, long, "", true},
		{"nothing and anything", anything, "", long, true},
		{"each letter twice", twice, strings.Repeat("ab", impl.MaxWord/4), strings.Repeat("aabb", impl.MaxWord/4), true},
		{"a letter too few", twice, strings.Repeat("ab", impl.MaxWord/4), strings.Repeat("aabb", impl.MaxWord/4)[1:], false},
		{"each second letter", half, long, strings.Repeat("a", impl.MaxWord/2), true},
		{"one more", half, long, strings.Repeat("a", impl.MaxWord/2+1), false},
		{"the full one", fullMachine(), long, long, naiveRelates(fullMachine(), long, long)},
	} {
		yes, code := impl.Relates(c.x, c.u, c.w)
		equal(t, c.what, []any{yes, code}, []any{c.yes, int64(impl.OK)})
		yes, code = impl.Relates(naiveTurn(c.x), c.w, c.u)
		equal(t, c.what+", turned", []any{yes, code}, []any{c.yes, int64(impl.OK)})
	}
}

func TestRelatesIsToldInvalid(t *testing.T) {
	same := knownMachines()[2]
	long := strings.Repeat("a", impl.MaxWord)
	for _, words := range [][2]string{{long + "a", ""}, {"", long + "a"}, {"c", ""}, {"", "#"}, {"-", "-"}, {"a b", "a"}, {"\xff", "a"}} {
		yes, code := impl.Relates(same, words[0], words[1])
		equal(t, "Relates", []any{yes, code}, []any{false, int64(impl.ErrInvalid)})
	}
	for _, x := range wrongMachines() {
		yes, code := impl.Relates(x, "", "")
		equal(t, "Relates", []any{yes, code}, []any{false, int64(impl.ErrInvalid)})
	}
}

func TestImages(t *testing.T) {
	d := dice(613)
	for _, x := range someMachines() {
		for _, u := range wordsUpTo(3) {
			length := d.below(6)
			want := naiveImages(x, u, int(length))
			got, code := impl.ImagesOf(x, u, length)
			if code != impl.OK || !slices.Equal(got, want) {
				t.Fatalf("images of %q with %d letters: %q, %d, but they are %q, by %s", u, length, got, code, want, textOf(x))
			}
			for _, w := range got {
				if yes, _ := impl.Relates(x, u, w); !yes {
					t.Fatalf("%q is an image of %q, but not related, by %s", w, u, textOf(x))
				}
			}
		}
	}
}

// All words that are related, up to MaxImage letters, are images.
func TestLongestImages(t *testing.T) {
	known := knownMachines()
	for _, x := range []impl.Transducer{known[0], known[1], known[2], known[5], known[6], known[8], known[9], known[10], known[11]} {
		for _, u := range []string{"", "b", "abba", "aaaaaaaaaa", "babababababa"} {
			for _, length := range []int64{8, 9, 10} {
				got, code := impl.ImagesOf(x, u, length)
				equal(t, "code", code, int64(impl.OK))
				if want := naiveImages(x, u, int(length)); !slices.Equal(got, want) {
					t.Fatalf("images of %q with %d letters: %q, but they are %q, by %s", u, length, got, want, textOf(x))
				}
			}
		}
	}
	list, _ := impl.ImagesOf(known[2], strings.Repeat("a", impl.MaxImage), impl.MaxImage)
	equal(t, "MaxImage letters", list, []string{strings.Repeat("a", impl.MaxImage)})
	list, code := impl.ImagesOf(known[2], strings.Repeat("a", impl.MaxImage+1), impl.MaxImage)
	equal(t, "one letter more", []any{len(list), code}, []any{0, int64(impl.OK)})
	list, _ = impl.ImagesOf(naiveTurn(known[0]), strings.Repeat("b", impl.MaxImage), impl.MaxImage)
	equal(t, "as many letters as are read", list, []string{strings.Repeat("a", impl.MaxImage)})
	list, _ = impl.ImagesOf(known[0], strings.Repeat("ab", impl.MaxImage), impl.MaxImage)
	equal(t, "half as many letters", list, []string{strings.Repeat("b", impl.MaxImage)})
	list, _ = impl.ImagesOf(known[6], "", 4)
	equal(t, "images of the empty word", list, []string{"", "a", "aa", "aaa", "aaaa"})
	list, _ = impl.ImagesOf(known[7], strings.Repeat("b", impl.MaxWord), 2)
	equal(t, "images of a word with MaxWord letters", list, wordsUpTo(2))
}

func TestHowManyImages(t *testing.T) {
	exactly, more := writing(firstWords(impl.MaxListed)), writing(firstWords(impl.MaxListed+1))
	list, code := impl.ImagesOf(exactly, "", impl.MaxImage)
	equal(t, "MaxListed images", code, int64(impl.OK))
	equal(t, "MaxListed images", list, wordsUpTo(8)[:impl.MaxListed])
	for _, length := range []int64{8, 9, impl.MaxImage} {
		list, code = impl.ImagesOf(more, "", length)
		equal(t, "one image more", []any{len(list), code}, []any{0, int64(impl.ErrLimit)})
	}
	list, code = impl.ImagesOf(more, "", 7)
	equal(t, "less letters", []any{len(list), code}, []any{255, int64(impl.OK)})
	// Each of the images is written in several ways, but it is one image.
	often := copyOfMachine(exactly)
	often.Edges = append(often.Edges, exactly.Edges...)
	list, code = impl.ImagesOf(often, "", impl.MaxImage)
	equal(t, "images in several ways", []any{len(list), code}, []any{impl.MaxListed, int64(impl.OK)})
	list, code = impl.ImagesOf(knownMachines()[7], strings.Repeat("a", impl.MaxWord), impl.MaxImage)
	equal(t, "all words", []any{len(list), code}, []any{0, int64(impl.ErrLimit)})
}

func TestErrorsOfImages(t *testing.T) {
	all := knownMachines()[7]
	for _, length := range []int64{-1, impl.MaxImage + 1, 1 << 62, -1 << 63} {
		list, code := impl.ImagesOf(all, "a", length)
		equal(t, "ImagesOf", []any{len(list), code}, []any{0, int64(impl.ErrRange)})
		_, code = impl.ImagesOf(all, "c", length)
		equal(t, "a text that is no word, and a length", code, int64(impl.ErrInvalid))
		_, code = impl.ImagesOf(wrongMachines()[3], "a", length)
		equal(t, "a transducer, and a length", code, int64(impl.ErrInvalid))
	}
	for _, x := range wrongMachines() {
		list, code := impl.ImagesOf(x, "a", 3)
		equal(t, "ImagesOf", []any{len(list), code}, []any{0, int64(impl.ErrInvalid)})
	}
	_, code := impl.ImagesOf(all, strings.Repeat("a", impl.MaxWord+1), impl.MaxImage)
	equal(t, "a word that is too long, and too many images", code, int64(impl.ErrInvalid))
}

func TestTurnedTransducers(t *testing.T) {
	for _, x := range append(someMachines(), fullMachine()) {
		turned, code := impl.TurnTransducer(x)
		sameMachine(t, "TurnTransducer", turned, code, naiveTurn(x))
		back, code := impl.TurnTransducer(turned)
		sameMachine(t, "TurnTransducer of this", back, code, x)
	}
	turned, code := impl.TurnTransducer(machineOf(1, "ny", "1 0 a -", "0 1 b a", "1 1 - -"))
	sameMachine(t, "turned", turned, code, machineOf(1, "ny", "1 0 - a", "0 1 a b", "1 1 - -"))
	for _, x := range wrongMachines() {
		turned, code := impl.TurnTransducer(x)
		isNoMachine(t, "TurnTransducer", turned, code, impl.ErrInvalid)
	}
}

// The examples of chapter 6.
func TestExampleOfTransducers(t *testing.T) {
	x, code := impl.ReadTransducer("transducer 1 0\nyes\n0 0 a b\n0 0 b -\n")
	equal(t, "ReadTransducer", code, int64(impl.OK))
	yes, _ := impl.Relates(x, "aba", "bb")
	equal(t, "relates", yes, true)
	functional, _ := impl.IsFunctional(x)
	balanced, _ := impl.IsBalanced(x)
	equal(t, "functional, but not balanced", []bool{functional, balanced}, []bool{true, false})
	in, _ := impl.InputsOf(x)
	equal(t, "all words", takenUpTo(in, 3), takenUpTo(everything(1), 3))
	out, _ := impl.OutputsOf(x)
	equal(t, "those without a", takenUpTo(out, 3), [][]string{{""}, {"b"}, {"bb"}, {"bbb"}})
	turned, _ := impl.TurnTransducer(x)
	functional, _ = impl.IsFunctional(turned)
	equal(t, "turned", functional, false)
	u, v, w, code := impl.FirstDouble(turned, 1)
	equal(t, "FirstDouble", []any{u, v, w, code}, []any{"", "", "b", int64(impl.OK)})
	r, _ := impl.RelationOfTransducer(machineOf(0, "y", "0 0 a b"))
	yes, _ = impl.Holds(r, []string{"a", "b"})
	equal(t, "takes", yes, true)
}
