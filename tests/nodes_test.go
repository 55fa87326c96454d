package tests

import (
	"regexp"
	"slices"
	"strconv"
	"strings"

	"loop.example/g01168/impl"
)

// node is a formula as a tree. Its kind is 'R' or '=', '!', a sign between two
// parts, or the letter of a quantifier; names are its variables.
type node struct {
	kind   byte
	number int64
	names  string
	parts  []node
}

func (n node) text() string {
	switch n.kind {
	case 'R':
		return "R" + strconv.FormatInt(n.number, 10) + "(" + n.names + ")"
	case '=':
		return n.names[:1] + "=" + n.names[1:]
	case '!':
		return "!" + n.parts[0].text()
	case 'E', 'A', 'M':
		return string(n.kind) + n.names + n.parts[0].text()
	}
	return "(" + n.parts[0].text() + string(n.kind) + n.parts[1].text() + ")"
}

func (n node) isQuantifier() bool { return strings.IndexByte("EAM", n.kind) >= 0 }

func (n node) hasFree(name byte) bool {
	if n.kind == 'R' || n.kind == '=' {
		return strings.IndexByte(n.names, name) >= 0
	}
	if n.isQuantifier() && n.names[0] == name {
		return false
	}
	return slices.ContainsFunc(n.parts, func(part node) bool { return part.hasFree(name) })
}

func (n node) free() string {
	names := ""
	for _, name := range []byte("xyz") {
		if n.hasFree(name) {
			names += string(name)
		}
	}
	return names
}

func (n node) depth() int64 {
	if n.kind == 'R' || n.kind == '=' {
		return 0
	}
	deepest := int64(0)
	for _, part := range n.parts {
		deepest = max(deepest, part.depth())
	}
	return deepest + 1
}

func not(part node) node { return node{kind: '!', parts: []node{part}} }

func with(sign byte, left, right node) node { return node{kind: sign, parts: []node{left, right}} }

func bound(letter byte, name string, part node) node {
	return node{kind: letter, names: name, parts: []node{part}}
}

func (d *dice) oneOf(letters string) string { return letters[d.below(int64(len(letters))):][:1] }

// randomNode makes a formula with at most so great a nesting, for relations with
// these numbers of tapes.
func randomNode(d *dice, depth int64, tapes []int64) node {
	if depth == 0 || d.below(7) == 0 {
		return randomAtom(d, tapes)
	}
	switch kind := d.below(7); {
	case kind == 0:
		return not(randomNode(d, depth-1, tapes))
	case kind <= 3:
		return with(d.oneOf("&|>~")[0], randomNode(d, depth-1, tapes), randomNode(d, depth-1, tapes))
	}
	return bound(d.oneOf("EAM")[0], d.oneOf("xyz"), randomNode(d, depth-1, tapes))
}

func randomAtom(d *dice, tapes []int64) node {
	number := d.below(int64(len(tapes) + 1))
	if number == int64(len(tapes)) {
		return node{kind: '=', names: d.oneOf("xyz") + d.oneOf("xyz")}
	}
	names := ""
	for range tapes[number] {
		names += d.oneOf("xyz")
	}
	return node{kind: 'R', number: number, names: names}
}

// isFormula tells whether a text is a formula, by putting "F" for parts that are,
// as long as there are any.
func isFormula(text string) bool {
	if strings.Contains(text, "F") {
		return false
	}
	text = regexp.MustCompile(`R[0-9]\([xyz]{1,3}\)|[xyz]=[xyz]`).ReplaceAllLiteralString(text, "F")
	larger := regexp.MustCompile(`!F|\(F[&|>~]F\)|[EAM][xyz]F`)
	for larger.MatchString(text) {
		text = larger.ReplaceAllLiteralString(text, "F")
	}
	return text == "F"
}

// world is a structure with finitely many elements, in which formulas are tried
// with each of them.
type world struct {
	elements  []string
	relations []impl.Relation
}

// place has a word for each of the variables x, y and z.
type place [3]string

func (p place) words(names string) []string {
	var words []string
	for _, name := range []byte(names) {
		words = append(words, p[name-'x'])
	}
	return words
}

func (w world) presentation(domain impl.Relation) impl.Presentation {
	return impl.Presentation{Domain: domain, Relations: w.relations}
}

func (w world) holds(n node, at place) bool {
	switch n.kind {
	case 'R':
		return takes(w.relations[n.number], at.words(n.names))
	case '=':
		words := at.words(n.names)
		return words[0] == words[1]
	case '!':
		return !w.holds(n.parts[0], at)
	case 'M':
		return false
	case 'E', 'A':
		return w.quantified(n, at)
	}
	return truth(n.kind, w.holds(n.parts[0], at), w.holds(n.parts[1], at))
}

func (w world) quantified(n node, at place) bool {
	for _, element := range w.elements {
		at[n.names[0]-'x'] = element
		if w.holds(n.parts[0], at) == (n.kind == 'E') {
			return n.kind == 'E'
		}
	}
	return n.kind == 'A'
}

func truth(sign byte, left, right bool) bool {
	switch sign {
	case '&':
		return left && right
	case '|':
		return left || right
	case '>':
		return !left || right
	}
	return left == right
}

// placesFor returns all places with words for some variables, and the empty word
// for the others.
func placesFor(names string, words []string) []place {
	list := []place{{}}
	for _, name := range []byte(names) {
		var longer []place
		for _, at := range list {
			for _, w := range words {
				at[name-'x'] = w
				longer = append(longer, at)
			}
		}
		list = longer
	}
	return list
}

// answers returns all answers to a formula, in order.
func (w world) answers(n node) [][]string {
	var list [][]string
	for _, at := range placesFor(n.free(), w.elements) {
		if w.holds(n, at) {
			list = append(list, at.words(n.free()))
		}
	}
	slices.SortFunc(list, inOrder)
	return list
}
