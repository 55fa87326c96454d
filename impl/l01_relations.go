package impl

import (
	"iter"
	"slices"
	"strconv"
	"strings"
)

// Codes of errors.
const (
	OK          = 0
	ErrInvalid  = 1
	ErrRange    = 2
	ErrLimit    = 3
	ErrState    = 4
	ErrSyntax   = 5
	ErrNotFound = 6
	ErrBudget   = 7
	ErrProof    = 8
)

// Limits of words and relations.
const (
	MaxWord   = 40
	MaxTapes  = 3
	MaxStates = 150
	MaxListed = 300
	MaxLength = 18
	MaxRaw    = 1000
	MaxText   = 40000
)

const (
	mostColumns = 26
	mostCounted = 1000000000
)

// Relation is a set of tuples of words.
type Relation struct {
	Tapes  int64
	Start  int64
	Accept []bool
	Next   [][]int64
}

// letters are those of one column. Tapes that a relation does not have
// are pads, so the column of pads alone looks the same for all relations.
type letters [MaxTapes]byte

// signature tells what a state can do: its class, and those behind it.
// Its numbers are short, because longer keys of maps are slow.
type signature [mostColumns + 1]int32

// place is a state of an automaton, with the tapes that have ended, as bits.
type place struct {
	state, ended int64
}

// pairStep is a step of a walk through two automata at once.
type pairStep struct {
	left, right, from, column int64
}

// CodeName returns the name of an error code.
func CodeName(code int64) string {
	names := [...]string{"ok", "invalid", "range", "limit", "state", "syntax", "notfound", "budget", "proof"}
	if code < 0 || code >= int64(len(names)) {
		return ""
	}
	return names[code]
}

// ValidWord reports whether a text is a word.
func ValidWord(w string) bool {
	if len(w) > MaxWord {
		return false
	}
	for i := range len(w) {
		if w[i] != 'a' && w[i] != 'b' {
			return false
		}
	}
	return true
}

func allWords(texts []string) bool {
	for _, w := range texts {
		if !ValidWord(w) {
			return false
		}
	}
	return true
}

func validTapes(tapes int64) bool {
	return tapes >= 1 && tapes <= MaxTapes
}

func columnCount(tapes int64) int64 {
	lists := int64(1)
	for range tapes {
		lists *= 3
	}
	return lists - 1
}

func onlyPads() letters {
	return letters{'#', '#', '#'}
}

func lettersOf(tapes, column int64) letters {
	l := onlyPads()
	for t := range tapes {
		l[t] = "ab#"[column%3]
		column /= 3
	}
	return l
}

func lettersAt(words []string, index int) letters {
	l := onlyPads()
	for t, w := range words {
		if index < len(w) {
			l[t] = w[index]
		}
	}
	return l
}

func columnNumbers(tapes int64) map[letters]int64 {
	numbers := map[letters]int64{}
	for c := range columnCount(tapes) {
		numbers[lettersOf(tapes, c)] = c
	}
	return numbers
}

// ColumnsOf returns the columns of a tuple.
func ColumnsOf(words []string) ([]int64, int64) {
	if !allWords(words) {
		return nil, ErrInvalid
	}
	if !validTapes(int64(len(words))) {
		return nil, ErrRange
	}
	return columnsOf(words), OK
}

func columnsOf(words []string) []int64 {
	numbers := columnNumbers(int64(len(words)))
	var columns []int64
	for i := 0; ; i++ {
		l := lettersAt(words, i)
		if l == onlyPads() {
			return columns
		}
		columns = append(columns, numbers[l])
	}
}

// WordsOf returns the tuple with the given columns.
func WordsOf(tapes int64, columns []int64) ([]string, int64) {
	if !validTapes(tapes) || len(columns) > MaxWord {
		return nil, ErrRange
	}
	for _, c := range columns {
		if c < 0 || c >= columnCount(tapes) {
			return nil, ErrRange
		}
	}
	if !areRight(tapes, columns) {
		return nil, ErrState
	}
	return wordsOf(tapes, columns), OK
}

func areRight(tapes int64, columns []int64) bool {
	pads := padsOfColumns(tapes)
	ended := int64(0)
	for _, c := range columns {
		if !mayFollow(ended, pads[c]) {
			return false
		}
		ended = pads[c]
	}
	return true
}

func wordsOf(tapes int64, columns []int64) []string {
	var written [MaxTapes][]byte
	for _, c := range columns {
		for t, letter := range lettersOf(tapes, c) {
			if letter != '#' {
				written[t] = append(written[t], letter)
			}
		}
	}
	words := make([]string, tapes)
	for t := range words {
		words[t] = string(written[t])
	}
	return words
}

// ColumnText returns the letters and pads of a column.
func ColumnText(tapes, column int64) (string, int64) {
	if !validTapes(tapes) || column < 0 || column >= columnCount(tapes) {
		return "", ErrRange
	}
	l := lettersOf(tapes, column)
	return string(l[:tapes]), OK
}

// padsOfColumns returns for each column the tapes on which it has pads, as bits.
func padsOfColumns(tapes int64) []int64 {
	pads := make([]int64, columnCount(tapes))
	for c := range pads {
		l := lettersOf(tapes, int64(c))
		for t := range tapes {
			if l[t] == '#' {
				pads[c] |= 1 << t
			}
		}
	}
	return pads
}

// mayFollow reports whether a column with these pads has no letter on a
// tape that has ended.
func mayFollow(ended, pads int64) bool {
	return ended&^pads == 0
}

// ValidRelation reports whether a relation is valid.
func ValidRelation(r Relation) bool {
	states := int64(len(r.Next))
	if !validTapes(r.Tapes) || states < 1 || states > MaxStates || int64(len(r.Accept)) != states {
		return false
	}
	if r.Start < 0 || r.Start >= states {
		return false
	}
	for _, row := range r.Next {
		if int64(len(row)) != columnCount(r.Tapes) {
			return false
		}
		for _, next := range row {
			if next < 0 || next >= states {
				return false
			}
		}
	}
	return true
}

// SameRelation reports whether two relations are deeply equal.
func SameRelation(r, s Relation) bool {
	return r.Tapes == s.Tapes && r.Start == s.Start &&
		slices.Equal(r.Accept, s.Accept) &&
		slices.EqualFunc(r.Next, s.Next, slices.Equal[[]int64])
}

// RelationText returns the text of a relation.
func RelationText(r Relation) string {
	if !ValidRelation(r) {
		return ""
	}
	var text strings.Builder
	text.WriteString("relation")
	writeNumbers(&text, r.Tapes, int64(len(r.Next)), r.Start)
	for s, row := range r.Next {
		if r.Accept[s] {
			text.WriteString("yes")
		} else {
			text.WriteString("no")
		}
		writeNumbers(&text, row...)
	}
	return text.String()
}

// writeNumbers ends a line with numbers.
func writeNumbers(text *strings.Builder, numbers ...int64) {
	for _, n := range numbers {
		text.WriteByte(' ')
		text.WriteString(strconv.FormatInt(n, 10))
	}
	text.WriteByte('\n')
}

// ReadRelation returns the relation with the given text.
func ReadRelation(text string) (Relation, int64) {
	if len(text) > MaxText {
		return Relation{}, ErrRange
	}
	r, ok := parseRelation(text)
	// Numbers can be written in several ways, but a text has only one of them;
	// a relation that is not valid has no text.
	if !ok || RelationText(r) != text {
		return Relation{}, ErrSyntax
	}
	return r, OK
}

// parseRelation reads a text and leaves it to the caller to look whether it
// is the text of what has been read.
func parseRelation(text string) (Relation, bool) {
	lines := strings.Split(strings.TrimSuffix(text, "\n"), "\n")
	head, ok := parseNumbers(lines[0])
	if !ok || len(head) != 3 {
		return Relation{}, false
	}
	r := Relation{Tapes: head[0], Start: head[2]}
	for _, line := range lines[1:] {
		row, ok := parseNumbers(line)
		if !ok {
			return Relation{}, false
		}
		r.Accept = append(r.Accept, strings.HasPrefix(line, "yes "))
		r.Next = append(r.Next, row)
	}
	return r, true
}

// parseNumbers reads the numbers behind the first word of a line.
func parseNumbers(line string) ([]int64, bool) {
	var numbers []int64
	for _, word := range strings.Split(line, " ")[1:] {
		n, err := strconv.ParseInt(word, 10, 64)
		if err != nil {
			return nil, false
		}
		numbers = append(numbers, n)
	}
	return numbers, true
}

// Holds reports whether a relation takes a tuple.
func Holds(r Relation, words []string) (bool, int64) {
	if !ValidRelation(r) || !allWords(words) {
		return false, ErrInvalid
	}
	if int64(len(words)) != r.Tapes {
		return false, ErrRange
	}
	state := r.Start
	for _, c := range columnsOf(words) {
		state = r.Next[state][c]
	}
	return r.Accept[state], OK
}

// rightPart returns an automaton that takes the right lists of columns that r
// takes, and no others. All its states are met, but for the state 0, to which
// lists that are not right lead. It may have more than MaxStates states, and
// so may r.
func rightPart(r Relation) Relation {
	pads := padsOfColumns(r.Tapes)
	numbers := make([]int64, len(r.Next)<<MaxTapes)
	places := []place{{}}
	meet := func(p place) int64 {
		number := &numbers[p.state<<MaxTapes|p.ended]
		if *number == 0 {
			*number = int64(len(places))
			places = append(places, p)
		}
		return *number
	}
	right := Relation{Tapes: r.Tapes, Start: meet(place{state: r.Start})}
	right.Accept = []bool{false}
	right.Next = [][]int64{make([]int64, len(pads))}
	for i := 1; i < len(places); i++ {
		p := places[i]
		row := make([]int64, len(pads))
		for c, ended := range pads {
			if mayFollow(p.ended, ended) {
				row[c] = meet(place{r.Next[p.state][c], ended})
			}
		}
		right.Accept = append(right.Accept, r.Accept[p.state])
		right.Next = append(right.Next, row)
	}
	return right
}

// classesOf returns for each state of an automaton the number of its class:
// states that take the same lists of columns are in one class. It returns false
// as soon as there are more than most classes, of which there are never fewer
// later on.
func classesOf(r Relation, most int) ([]int32, bool) {
	numbers := map[signature]int32{}
	var refine func(classes []int32, count int) ([]int32, bool)
	refine = func(classes []int32, count int) ([]int32, bool) {
		clear(numbers)
		finer := make([]int32, len(classes))
		for s, row := range r.Next {
			key := signature{classes[s]}
			for c, next := range row {
				key[c+1] = classes[next]
			}
			number, known := numbers[key]
			if !known {
				number = int32(len(numbers))
				numbers[key] = number
			}
			finer[s] = number
		}
		if len(numbers) == count || len(numbers) > most {
			return finer, len(numbers) <= most
		}
		return refine(finer, len(numbers))
	}
	classes := make([]int32, len(r.Next))
	for s, accepts := range r.Accept {
		if accepts {
			classes[s] = 1
		}
	}
	return refine(classes, 0)
}

// TidyRelation returns the tidy relation that takes the same tuples.
func TidyRelation(r Relation) (Relation, int64) {
	if !ValidRelation(r) {
		return Relation{}, ErrInvalid
	}
	return tidied(r)
}

// tidied returns the tidy relation of an automaton, which may have more than
// MaxStates states.
func tidied(r Relation) (Relation, int64) {
	tidy, few := tidiedTo(r, MaxStates)
	if !few {
		return Relation{}, ErrLimit
	}
	return tidy, OK
}

// tidiedTo returns the tidy relation of an automaton, and whether it has at most
// so many states.
func tidiedTo(r Relation, most int) (Relation, bool) {
	right := rightPart(r)
	// The state to which lists that are not right lead may not be met.
	classes, few := classesOf(right, most+1)
	if !few {
		return Relation{}, false
	}
	numbers := make([]int64, len(classes))
	var states []int64
	meet := func(state int64) int64 {
		number := &numbers[classes[state]]
		if *number == 0 {
			states = append(states, state)
			*number = int64(len(states))
		}
		return *number - 1
	}
	tidy := Relation{Tapes: r.Tapes, Start: meet(right.Start)}
	for i := 0; i < len(states); i++ {
		row := slices.Clone(right.Next[states[i]])
		for c, next := range row {
			row[c] = meet(next)
		}
		tidy.Accept = append(tidy.Accept, right.Accept[states[i]])
		tidy.Next = append(tidy.Next, row)
	}
	if len(states) > most {
		return Relation{}, false
	}
	return tidy, true
}

// firstApart returns the columns of the first tuple that only one of two
// automata with the same tapes takes, and whether there is one.
func firstApart(r, s Relation) ([]int64, bool) {
	return firstWith(r, s, func(left, right bool) bool { return left != right })
}

// firstWith returns the columns of the first tuple for which wanted is true of
// what two automata with the same tapes say of it, and whether there is one.
func firstWith(r, s Relation, wanted func(left, right bool) bool) ([]int64, bool) {
	r, s = rightPart(r), rightPart(s)
	met := make([]bool, len(r.Next)*len(s.Next))
	var steps []pairStep
	meet := func(p pairStep) {
		at := p.left*int64(len(s.Next)) + p.right
		if !met[at] {
			met[at] = true
			steps = append(steps, p)
		}
	}
	meet(pairStep{left: r.Start, right: s.Start})
	// Pairs are met in the order of the first lists that lead to them.
	for i := 0; i < len(steps); i++ {
		p := steps[i]
		if wanted(r.Accept[p.left], s.Accept[p.right]) {
			return columnsBack(steps, int64(i)), true
		}
		for c, next := range r.Next[p.left] {
			meet(pairStep{next, s.Next[p.right][c], int64(i), int64(c)})
		}
	}
	return nil, false
}

// columnsBack returns the columns that lead from the first step to another.
func columnsBack(steps []pairStep, at int64) []int64 {
	var columns []int64
	for at != 0 {
		columns = append(columns, steps[at].column)
		at = steps[at].from
	}
	slices.Reverse(columns)
	return columns
}

// noTuples returns the tidy relation that takes nothing.
func noTuples(tapes int64) Relation {
	row := make([]int64, columnCount(tapes))
	return Relation{Tapes: tapes, Accept: []bool{false}, Next: [][]int64{row}}
}

// AreEqual reports whether two relations take the same tuples.
func AreEqual(r, s Relation) (bool, int64) {
	if !ValidRelation(r) || !ValidRelation(s) {
		return false, ErrInvalid
	}
	if r.Tapes != s.Tapes {
		return false, ErrRange
	}
	_, apart := firstApart(r, s)
	return !apart, OK
}

// FirstUnlike returns the first tuple that only one of two relations takes.
func FirstUnlike(r, s Relation) ([]string, int64) {
	if !ValidRelation(r) || !ValidRelation(s) {
		return nil, ErrInvalid
	}
	if r.Tapes != s.Tapes {
		return nil, ErrRange
	}
	columns, apart := firstApart(r, s)
	if !apart {
		return nil, ErrNotFound
	}
	if len(columns) > MaxWord {
		return nil, ErrLimit
	}
	return wordsOf(r.Tapes, columns), OK
}

// FirstTuple returns the first tuple that a relation takes.
func FirstTuple(r Relation) ([]string, int64) {
	if !ValidRelation(r) {
		return nil, ErrInvalid
	}
	return FirstUnlike(r, noTuples(r.Tapes))
}

// IsEmpty reports whether a relation takes no tuple.
func IsEmpty(r Relation) (bool, int64) {
	if !ValidRelation(r) {
		return false, ErrInvalid
	}
	return AreEqual(r, noTuples(r.Tapes))
}

// listCounts returns how many lists with 0, 1 and so on, up to length, columns
// are taken from each state of an automaton that takes only right lists.
func listCounts(right Relation, length int64) [][]int64 {
	shortest := make([]int64, len(right.Next))
	for s, accepts := range right.Accept {
		if accepts {
			shortest[s] = 1
		}
	}
	counts := [][]int64{shortest}
	for k := range length {
		longer := make([]int64, len(right.Next))
		for s, row := range right.Next {
			for _, next := range row {
				longer[s] += counts[k][next]
			}
		}
		counts = append(counts, longer)
	}
	return counts
}

// CountTuples returns how many tuples have just so many columns.
func CountTuples(r Relation, length int64) (int64, int64) {
	if !ValidRelation(r) {
		return 0, ErrInvalid
	}
	if length < 0 || length > MaxLength {
		return 0, ErrRange
	}
	right := rightPart(r)
	return listCounts(right, length)[length][right.Start], OK
}

// listsOf gives out the lists with just so many columns that an automaton
// takes, in order; each of them is overwritten by the next one.
func listsOf(right Relation, counts [][]int64, length int64) iter.Seq[[]int64] {
	return func(yield func([]int64) bool) {
		columns := make([]int64, length)
		var walk func(state, rest int64) bool
		walk = func(state, rest int64) bool {
			if counts[rest][state] == 0 {
				return true
			}
			if rest == 0 {
				return yield(columns)
			}
			for c, next := range right.Next[state] {
				columns[length-rest] = int64(c)
				if !walk(next, rest-1) {
					return false
				}
			}
			return true
		}
		walk(right.Start, length)
	}
}

// TuplesUpTo returns all tuples with at most so many columns.
func TuplesUpTo(r Relation, length int64) ([][]string, int64) {
	if !ValidRelation(r) {
		return nil, ErrInvalid
	}
	if length < 0 || length > MaxLength {
		return nil, ErrRange
	}
	right := rightPart(r)
	counts := listCounts(right, length)
	var tuples [][]string
lengths:
	for k := range length + 1 {
		for columns := range listsOf(right, counts, k) {
			tuples = append(tuples, wordsOf(r.Tapes, columns))
			if len(tuples) > MaxListed {
				break lengths
			}
		}
	}
	if len(tuples) > MaxListed {
		return nil, ErrLimit
	}
	return tuples, OK
}

// liveStates reports for each state whether an accepting one is reached.
func liveStates(r Relation) []bool {
	before := make([][]int64, len(r.Next))
	for s, row := range r.Next {
		for _, next := range row {
			before[next] = append(before[next], int64(s))
		}
	}
	live := slices.Clone(r.Accept)
	var found []int64
	for s, accepts := range r.Accept {
		if accepts {
			found = append(found, int64(s))
		}
	}
	for i := 0; i < len(found); i++ {
		for _, s := range before[found[i]] {
			if !live[s] {
				live[s] = true
				found = append(found, s)
			}
		}
	}
	return live
}

// countLists returns the number of lists that an automaton takes, which is cut
// at one more than mostCounted, and whether it is finite.
func countLists(right Relation) (int64, bool) {
	live := liveStates(right)
	begun := make([]bool, len(live))
	done := make([]bool, len(live))
	counts := make([]int64, len(live))
	finite := true
	var count func(state int64) int64
	count = func(state int64) int64 {
		if !live[state] || done[state] {
			return counts[state]
		}
		// A live state that is met again before it is done is on a circle.
		if begun[state] {
			finite = false
			return 0
		}
		begun[state] = true
		if right.Accept[state] {
			counts[state] = 1
		}
		for _, next := range right.Next[state] {
			counts[state] = min(counts[state]+count(next), mostCounted+1)
		}
		done[state] = true
		return counts[state]
	}
	all := count(right.Start)
	return all, finite
}

// IsFinite reports whether a relation takes only so many tuples.
func IsFinite(r Relation) (bool, int64) {
	if !ValidRelation(r) {
		return false, ErrInvalid
	}
	_, finite := countLists(rightPart(r))
	return finite, OK
}

// CountAll returns the number of all tuples.
func CountAll(r Relation) (int64, int64) {
	if !ValidRelation(r) {
		return 0, ErrInvalid
	}
	count, finite := countLists(rightPart(r))
	if !finite {
		return 0, ErrState
	}
	if count > mostCounted {
		return 0, ErrLimit
	}
	return count, OK
}

// RelationOf returns the tidy relation of tuples.
func RelationOf(tapes int64, tuples [][]string) (Relation, int64) {
	for _, words := range tuples {
		if !allWords(words) {
			return Relation{}, ErrInvalid
		}
	}
	if !validTapes(tapes) || len(tuples) > MaxListed {
		return Relation{}, ErrRange
	}
	for _, words := range tuples {
		if int64(len(words)) != tapes {
			return Relation{}, ErrRange
		}
	}
	var lists [][]int64
	together := 0
	for _, words := range tuples {
		columns := columnsOf(words)
		lists = append(lists, columns)
		together += len(columns)
	}
	if together > MaxRaw {
		return Relation{}, ErrLimit
	}
	return tidied(treeOf(tapes, lists))
}

// treeOf returns an automaton that takes just some lists of columns: a tree
// that begins in the state 1, beside the state 0, which is never left.
func treeOf(tapes int64, lists [][]int64) Relation {
	tree := noTuples(tapes)
	grow := func() int64 {
		tree.Accept = append(tree.Accept, false)
		tree.Next = append(tree.Next, make([]int64, columnCount(tapes)))
		return int64(len(tree.Next) - 1)
	}
	tree.Start = grow()
	for _, columns := range lists {
		state := tree.Start
		for _, c := range columns {
			if tree.Next[state][c] == 0 {
				tree.Next[state][c] = grow()
			}
			state = tree.Next[state][c]
		}
		tree.Accept[state] = true
	}
	return tree
}
