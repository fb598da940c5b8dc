package impl

import (
	"iter"
	"strings"
)

// A Move takes a value to a place from another one, or a number.
type Move struct {
	To   string
	From string
}

const (
	registerNames = "abcdef"
	slotNames     = "ABC"
	placeNames    = registerNames + slotNames
	digitNames    = "0123456789"
	placeCount    = placeIndex(len(placeNames))
	textOfNone    = "-"
)

// A placeIndex is the index of a place in the order of places.
type placeIndex int

// positionIn checks the length first, since strings.Index finds the empty string and "ab" too.
func positionIn(names string, name string) (int, bool) {
	if len(name) != 1 {
		return 0, false
	}
	i := strings.Index(names, name)
	if i < 0 {
		return 0, false
	}
	return i, true
}

func indexOf(name string) (placeIndex, bool) {
	i, ok := positionIn(placeNames, name)
	return placeIndex(i), ok
}

func (p placeIndex) name() string { return placeNames[p : p+1] }

// below yields the places ahead of p, so that all places are those below placeCount.
func (p placeIndex) below(yield func(placeIndex) bool) {
	for i := range p {
		if !yield(i) {
			return
		}
	}
}

// namesWhere returns the names of the places for which a condition holds, in order.
func namesWhere(holds func(placeIndex) bool) string {
	names := ""
	for p := range placeCount.below {
		if holds(p) {
			names += p.name()
		}
	}
	return names
}

// namesIn returns those of names that stand in a text, in the order of names.
func namesIn(names string, text string) string {
	found := ""
	for i := range len(names) {
		if strings.Contains(text, names[i:i+1]) {
			found += names[i : i+1]
		}
	}
	return found
}

func isPlace(name string) bool {
	_, ok := indexOf(name)
	return ok
}

func isDigit(name string) bool {
	_, ok := positionIn(digitNames, name)
	return ok
}

func isSource(name string) bool { return isPlace(name) || isDigit(name) }

// A moveTable has From of the move to each place, and the empty string where there is none.
// It tells an idle move from none, which PlacesIn and SortMoves need.
type moveTable [placeCount]string

func tableOf(list []Move) (moveTable, bool) {
	var table moveTable
	for _, m := range list {
		next, ok := table.with(m)
		if !ok {
			return moveTable{}, false
		}
		table = next
	}
	return table, true
}

// with returns the table with one more move, and false if this is none or its place has one already.
func (t moveTable) with(m Move) (moveTable, bool) {
	to, ok := indexOf(m.To)
	if !ok || t[to] != "" || !isSource(m.From) {
		return moveTable{}, false
	}
	t[to] = m.From
	return t, true
}

func tableAndPlace(list []Move, place string) (moveTable, placeIndex, bool) {
	table, valid := tableOf(list)
	p, known := indexOf(place)
	return table, p, valid && known
}

func (t moveTable) source(p placeIndex) string {
	if t[p] == "" {
		return p.name()
	}
	return t[p]
}

// sources returns the table with an idle move to each place that has none.
// Moves do the same if these tables are equal.
func (t moveTable) sources() moveTable {
	for p := range placeCount.below {
		t[p] = t.source(p)
	}
	return t
}

func (t moveTable) same(other moveTable) bool { return t.sources() == other.sources() }

// readers returns the places that get the value of another place, or a digit.
func (t moveTable) readers(from string) string {
	return namesWhere(func(p placeIndex) bool { return p.name() != from && t.source(p) == from })
}

// moves yields the moves in the order of their places.
func (t moveTable) moves(yield func(Move) bool) {
	for p := range placeCount.below {
		if t[p] != "" && !yield(Move{To: p.name(), From: t[p]}) {
			return
		}
	}
}

func (t moveTable) list() []Move {
	var list []Move
	for m := range t.moves {
		list = append(list, m)
	}
	return list
}

// names returns To and From of all moves.
func (t moveTable) names() string {
	named := ""
	for m := range t.moves {
		named += m.To + m.From
	}
	return named
}

// partsOf yields what stands between separators; a text without any is one part.
func partsOf(text string, separator string) iter.Seq[string] {
	return func(yield func(string) bool) {
		part, rest, more := strings.Cut(text, separator)
		for yield(part) && more {
			part, rest, more = strings.Cut(rest, separator)
		}
	}
}

// MovesValid reports whether moves can be done at once.
func MovesValid(list []Move) bool {
	_, ok := tableOf(list)
	return ok
}

// FormatMoves returns the text of moves.
func FormatMoves(list []Move) string {
	if !MovesValid(list) {
		return ""
	}
	if len(list) == 0 {
		return textOfNone
	}
	parts := make([]string, len(list))
	for i, m := range list {
		parts[i] = m.To + "=" + m.From
	}
	return strings.Join(parts, ",")
}

// ParseMoves parses the text of moves.
func ParseMoves(text string) ([]Move, bool) {
	if text == textOfNone {
		return nil, true
	}
	var list []Move
	var table moveTable
	for part := range partsOf(text, ",") {
		to, from, _ := strings.Cut(part, "=")
		m := Move{To: to, From: from}
		// A part without "=" has an empty From, which the table does not accept.
		next, ok := table.with(m)
		if !ok {
			return nil, false
		}
		table = next
		list = append(list, m)
	}
	return list, true
}

// SourceOf returns from where the value of a place comes.
func SourceOf(list []Move, place string) (string, bool) {
	table, p, ok := tableAndPlace(list, place)
	if !ok {
		return "", false
	}
	return table.source(p), true
}

// ReadersOf returns the places whose values come from one.
func ReadersOf(list []Move, place string) (string, bool) {
	table, valid := tableOf(list)
	if !valid || !isSource(place) {
		return "", false
	}
	return table.readers(place), true
}

// DropIdle returns moves without those that change nothing.
func DropIdle(list []Move) ([]Move, bool) {
	if !MovesValid(list) {
		return nil, false
	}
	var busy []Move
	for _, m := range list {
		if m.From != m.To {
			busy = append(busy, m)
		}
	}
	return busy, true
}

// SortMoves returns moves in the order of their places.
func SortMoves(list []Move) ([]Move, bool) {
	table, ok := tableOf(list)
	if !ok {
		return nil, false
	}
	return table.list(), true
}

// SameMoves reports whether moves do the same.
func SameMoves(a []Move, b []Move) bool {
	one, oneValid := tableOf(a)
	two, twoValid := tableOf(b)
	return oneValid && twoValid && one.same(two)
}

// PlacesIn returns all places of moves.
func PlacesIn(list []Move) (string, bool) {
	table, ok := tableOf(list)
	if !ok {
		return "", false
	}
	return namesIn(placeNames, table.names()), true
}
