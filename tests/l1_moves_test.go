package tests

import (
	"math/rand"
	"slices"
	"strings"
	"testing"

	"loop.example/parallelmoves/impl"
)

const (
	placeLetters = "abcdefABC"
	digitLetters = "0123456789"

	sourceLetters = placeLetters + digitLetters
)

// notPlaces are texts that are no places; notSources are no digits either.
var (
	notSources = []string{"", "t", "u", "g", "D", "T", "ab", "aa", "fA", "abcdefABC", "12", "01", "10", "-1", "-", "=", ",", " ", "a ", " a", "a\n", "\x00", "a\x00", "\xff", "é", "٣"}
	notPlaces  = append([]string{"0", "1", "5", "9"}, notSources...)
)

// moves makes a list from texts, so that a test does not need ParseMoves to be right.
func moves(pairs ...string) []impl.Move {
	list := []impl.Move{}
	for i := 0; i < len(pairs); i += 2 {
		list = append(list, impl.Move{To: pairs[i], From: pairs[i+1]})
	}
	return list
}

// invalidLists are lists that are no moves.
func invalidLists() [][]impl.Move {
	lists := [][]impl.Move{
		moves("a", "b", "a", "c"),
		moves("a", "b", "a", "b"),
		moves("a", "a", "a", "a"),
		moves("a", "b", "b", "a", "a", "1"),
		moves("A", "1", "c", "d", "A", "2"),
		moves("a", "b", "b", "c", "c", "d", "d", "e", "e", "f", "f", "A", "A", "B", "B", "C", "C", "a", "C", "a"),
		moves("", ""),
		{{}, {}},
	}
	for _, name := range notPlaces {
		lists = append(lists, moves(name, "a"), moves("b", "a", name, "1"), moves(name, "1", "b", "a"))
	}
	for _, name := range notSources {
		lists = append(lists, moves("a", name), moves("b", "a", "c", name), moves("c", name, "b", "a"), moves("t", name))
	}
	return lists
}

// model does what the document says of chapter 1, move by move and place by place.
type model []impl.Move

func (l model) valid() bool {
	seen := map[string]bool{}
	for _, m := range l {
		to := len(m.To) == 1 && strings.Contains(placeLetters, m.To)
		from := len(m.From) == 1 && strings.Contains(sourceLetters, m.From)
		if !to || !from || seen[m.To] {
			return false
		}
		seen[m.To] = true
	}
	return true
}

func (l model) source(place string) string {
	for _, m := range l {
		if m.To == place {
			return m.From
		}
	}
	return place
}

func (l model) readers(name string) string {
	text := ""
	for _, p := range strings.Split(placeLetters, "") {
		if p != name && l.source(p) == name {
			text += p
		}
	}
	return text
}

func (l model) busy() []impl.Move {
	return slices.DeleteFunc(slices.Clone([]impl.Move(l)), func(m impl.Move) bool { return m.To == m.From })
}

func (l model) sorted() []impl.Move {
	list := slices.Clone([]impl.Move(l))
	slices.SortFunc(list, func(m, n impl.Move) int {
		return strings.Index(placeLetters, m.To) - strings.Index(placeLetters, n.To)
	})
	return list
}

func (l model) places() string {
	text := ""
	for _, p := range strings.Split(placeLetters, "") {
		if slices.ContainsFunc(l, func(m impl.Move) bool { return m.To == p || m.From == p }) {
			text += p
		}
	}
	return text
}

func (l model) format() string {
	if len(l) == 0 {
		return "-"
	}
	parts := []string{}
	for _, m := range l {
		parts = append(parts, m.To+"="+m.From)
	}
	return strings.Join(parts, ",")
}

// checkRefused checks the results of all functions for a list that is no moves.
func checkRefused(t *testing.T, list []impl.Move) {
	t.Helper()
	if impl.MovesValid(list) || impl.FormatMoves(list) != "" {
		t.Errorf("%q: MovesValid = %v, FormatMoves = %q", list, impl.MovesValid(list), impl.FormatMoves(list))
	}
	for _, name := range []string{"a", "b", "C", "1", "t", ""} {
		if s, ok := impl.SourceOf(list, name); s != "" || ok {
			t.Errorf("%q: SourceOf(%q) = %q, %v", list, name, s, ok)
		}
		if s, ok := impl.ReadersOf(list, name); s != "" || ok {
			t.Errorf("%q: ReadersOf(%q) = %q, %v", list, name, s, ok)
		}
	}
	if got, ok := impl.DropIdle(list); len(got) != 0 || ok {
		t.Errorf("%q: DropIdle = %q, %v", list, got, ok)
	}
	if got, ok := impl.SortMoves(list); len(got) != 0 || ok {
		t.Errorf("%q: SortMoves = %q, %v", list, got, ok)
	}
	if s, ok := impl.PlacesIn(list); s != "" || ok {
		t.Errorf("%q: PlacesIn = %q, %v", list, s, ok)
	}
	if impl.SameMoves(list, list) || impl.SameMoves(list, nil) || impl.SameMoves(nil, list) {
		t.Errorf("%q: SameMoves", list)
	}
}

// checkMoves checks the results of all functions for moves against the model.
func checkMoves(t *testing.T, list []impl.Move) {
	t.Helper()
	want := model(list)
	text := impl.FormatMoves(list)
	if !impl.MovesValid(list) || text != want.format() {
		t.Errorf("%q: MovesValid = %v, FormatMoves = %q", list, impl.MovesValid(list), text)
	}
	if got, ok := impl.ParseMoves(want.format()); !slices.Equal(got, list) || !ok {
		t.Errorf("%q: ParseMoves = %q, %v", list, got, ok)
	}
	for _, p := range strings.Split(placeLetters, "") {
		if s, ok := impl.SourceOf(list, p); s != want.source(p) || !ok {
			t.Errorf("%q: SourceOf(%q) = %q, %v", list, p, s, ok)
		}
	}
	for _, name := range strings.Split(sourceLetters, "") {
		if s, ok := impl.ReadersOf(list, name); s != want.readers(name) || !ok {
			t.Errorf("%q: ReadersOf(%q) = %q, %v", list, name, s, ok)
		}
	}
	if got, ok := impl.DropIdle(list); !slices.Equal(got, want.busy()) || !ok {
		t.Errorf("%q: DropIdle = %q, %v", list, got, ok)
	}
	if got, ok := impl.SortMoves(list); !slices.Equal(got, want.sorted()) || !ok {
		t.Errorf("%q: SortMoves = %q, %v", list, got, ok)
	}
	if s, ok := impl.PlacesIn(list); s != want.places() || !ok {
		t.Errorf("%q: PlacesIn = %q, %v", list, s, ok)
	}
	if !impl.SameMoves(list, list) || !impl.SameMoves(list, want.busy()) || !impl.SameMoves(want.sorted(), list) {
		t.Errorf("%q: SameMoves", list)
	}
}

func randomLetter(r *rand.Rand, letters string) string {
	i := r.Intn(len(letters))
	return letters[i : i+1]
}

// randomMoves returns up to nine moves in any order, some of them idle.
// Half of the lists have no digits, so that readers and rings are frequent.
func randomMoves(r *rand.Rand) []impl.Move {
	sources := sourceLetters
	if r.Intn(2) == 0 {
		sources = placeLetters
	}
	list := []impl.Move{}
	for _, i := range r.Perm(len(placeLetters))[:r.Intn(len(placeLetters)+1)] {
		list = append(list, impl.Move{To: placeLetters[i : i+1], From: randomLetter(r, sources)})
	}
	return list
}

func TestMovesOfTheDocument(t *testing.T) {
	list := moves("b", "a", "a", "b", "c", "a")
	if text := impl.FormatMoves(list); text != "b=a,a=b,c=a" {
		t.Errorf("FormatMoves = %q", text)
	}
	for place, want := range map[string]string{"a": "bc", "b": "a", "c": "", "d": "", "A": "", "0": ""} {
		if s, ok := impl.ReadersOf(list, place); s != want || !ok {
			t.Errorf("ReadersOf(%q) = %q, %v", place, s, ok)
		}
	}
	for place, want := range map[string]string{"a": "b", "b": "a", "c": "a", "d": "d", "C": "C"} {
		if s, ok := impl.SourceOf(list, place); s != want || !ok {
			t.Errorf("SourceOf(%q) = %q, %v", place, s, ok)
		}
	}
	if s, ok := impl.PlacesIn(list); s != "abc" || !ok {
		t.Errorf("PlacesIn = %q, %v", s, ok)
	}
}

func TestMovesAgainstTheModel(t *testing.T) {
	checkMoves(t, nil)
	checkMoves(t, moves())
	for _, to := range strings.Split(placeLetters, "") {
		for _, from := range strings.Split(sourceLetters, "") {
			checkMoves(t, moves(to, from))
		}
	}
	r := rand.New(rand.NewSource(1))
	for range 3000 {
		checkMoves(t, randomMoves(r))
	}
}

func TestMovesThatAreNotValid(t *testing.T) {
	for _, list := range invalidLists() {
		checkRefused(t, list)
	}
	long := []impl.Move{}
	for range 1000 {
		long = append(long, impl.Move{To: "a", From: "b"})
	}
	checkRefused(t, long)
}

func TestNoMoves(t *testing.T) {
	for _, list := range [][]impl.Move{nil, {}} {
		if !impl.MovesValid(list) || impl.FormatMoves(list) != "-" {
			t.Errorf("MovesValid, FormatMoves = %q", impl.FormatMoves(list))
		}
		if s, ok := impl.SourceOf(list, "B"); s != "B" || !ok {
			t.Errorf("SourceOf = %q, %v", s, ok)
		}
		if s, ok := impl.PlacesIn(list); s != "" || !ok {
			t.Errorf("PlacesIn = %q, %v", s, ok)
		}
		if s, ok := impl.ReadersOf(list, "B"); s != "" || !ok {
			t.Errorf("ReadersOf = %q, %v", s, ok)
		}
	}
	if list, ok := impl.ParseMoves("-"); len(list) != 0 || !ok {
		t.Errorf("ParseMoves = %q, %v", list, ok)
	}
	if !impl.SameMoves(nil, []impl.Move{}) || !impl.SameMoves(nil, moves("a", "a", "C", "C")) || impl.SameMoves(nil, moves("a", "1")) {
		t.Error("SameMoves")
	}
}

func TestParseMovesRefusesOtherTexts(t *testing.T) {
	texts := []string{
		"", "--", "-,-", "a=b,-", "-,a=b", "- ", " -", "-\n", "=", ",", ",,", "a", "a=", "=a", "a=b,", ",a=b", "a=b,,c=d",
		"a=b,a=b", "a=b,a=c", "a=a,b=b,a=a", "a=b;b=a", "a=b b=a", "a = b", "a=b, b=a", "a~b", "a==b", "a=b=c", "a=b=", "=a=b",
		"ab=c", "a=bc", "a=10", "a=-1", "a=01", "1=a", "1=1", "t=a", "a=t", "u=a", "a=u", "g=a", "a=g", "D=a", "a=D", "a=b\n", "a=b\x00",
		"a=b,b=c,c=d,d=e,e=f,f=A,A=B,B=C,C=a,C=a", "a=é", "a=\xff", strings.Repeat("a=b,", 1000), strings.Repeat("a", 1000), strings.Repeat(",", 1000),
	}
	for _, text := range texts {
		if list, ok := impl.ParseMoves(text); len(list) != 0 || ok {
			t.Errorf("ParseMoves(%q) = %q, %v", text, list, ok)
		}
	}
	for to := range 256 {
		for from := range 256 {
			list := moves(string([]byte{byte(to)}), string([]byte{byte(from)}))
			text := list[0].To + "=" + list[0].From
			got, ok := impl.ParseMoves(text)
			if want := model(list).valid(); ok != want || ok != (len(got) == 1) || impl.MovesValid(list) != want {
				t.Errorf("ParseMoves(%q) = %q, %v", text, got, ok)
			}
		}
	}
}

func TestPlacesThatAreNone(t *testing.T) {
	list := moves("b", "a", "a", "1", "c", "c")
	for _, name := range notPlaces {
		if s, ok := impl.SourceOf(list, name); s != "" || ok {
			t.Errorf("SourceOf(%q) = %q, %v", name, s, ok)
		}
	}
	for _, name := range notSources {
		if s, ok := impl.ReadersOf(list, name); s != "" || ok {
			t.Errorf("ReadersOf(%q) = %q, %v", name, s, ok)
		}
	}
}

func TestReadersOf(t *testing.T) {
	list := moves("C", "a", "d", "a", "b", "b", "A", "7", "c", "7", "a", "a", "e", "b", "B", "C")
	for name, want := range map[string]string{"a": "dC", "b": "e", "7": "cA", "C": "B", "f": "", "B": "", "0": ""} {
		if s, ok := impl.ReadersOf(list, name); s != want || !ok {
			t.Errorf("ReadersOf(%q) = %q, %v", name, s, ok)
		}
	}
}

func TestOrdersOfMoves(t *testing.T) {
	list := moves("C", "a", "A", "A", "f", "1", "a", "B", "d", "d", "B", "f")
	if got, ok := impl.DropIdle(list); impl.FormatMoves(got) != "C=a,f=1,a=B,B=f" || !ok {
		t.Errorf("DropIdle = %q, %v", got, ok)
	}
	if got, ok := impl.SortMoves(list); impl.FormatMoves(got) != "a=B,d=d,f=1,A=A,B=f,C=a" || !ok {
		t.Errorf("SortMoves = %q, %v", got, ok)
	}
	if s, ok := impl.PlacesIn(list); s != "adfABC" || !ok {
		t.Errorf("PlacesIn = %q, %v", s, ok)
	}
	if got, ok := impl.DropIdle(moves("b", "b", "a", "a")); len(got) != 0 || !ok {
		t.Errorf("DropIdle = %q, %v", got, ok)
	}
}

func TestSameMoves(t *testing.T) {
	r := rand.New(rand.NewSource(2))
	for range 3000 {
		a, b := randomMoves(r), randomMoves(r)
		if len(a) > 0 && r.Intn(2) == 0 { // lists that differ in at most one move, and in their order
			b = slices.Clone(a)
			b[r.Intn(len(b))].From = randomLetter(r, sourceLetters)
			slices.Reverse(b)
		}
		want := true
		for _, p := range strings.Split(placeLetters, "") {
			want = want && model(a).source(p) == model(b).source(p)
		}
		if impl.SameMoves(a, b) != want || impl.SameMoves(b, a) != want {
			t.Errorf("SameMoves(%q, %q) is not %v", a, b, want)
		}
	}
	if impl.SameMoves(moves("a", "1"), moves("a", "2")) || impl.SameMoves(moves("a", "b"), moves("b", "a")) {
		t.Error("SameMoves of others")
	}
}

// callAll calls all functions of chapter 1 that take a list, and returns the lists among their results.
func callAll(list []impl.Move) [][]impl.Move {
	impl.MovesValid(list)
	impl.FormatMoves(list)
	impl.SourceOf(list, "a")
	impl.ReadersOf(list, "a")
	impl.SameMoves(list, list)
	impl.PlacesIn(list)
	busy, _ := impl.DropIdle(list)
	sorted, _ := impl.SortMoves(list)
	return [][]impl.Move{busy, sorted}
}

func TestMovesShareNoMemory(t *testing.T) {
	lists := append(invalidLists(), moves("b", "a", "a", "1"), moves("a", "1", "b", "a"), moves("a", "a", "c", "b"), moves())
	for _, list := range lists {
		room := append(slices.Clone(list), moves("C", "9", "B", "8", "A", "7")...)
		before := slices.Clone(room)
		results := callAll(room[:len(list)])
		if !slices.Equal(room, before) {
			t.Errorf("%q: an argument was changed", list)
		}
		for i, result := range results {
			others := slices.Clone(results[1-i])
			result = result[:cap(result)]
			for j := range result {
				result[j] = impl.Move{To: "x", From: "y"}
			}
			if !slices.Equal(room, before) || !slices.Equal(results[1-i], others) {
				t.Errorf("%q: a result shares memory", list)
			}
		}
	}
}

func TestParsedMovesShareNoMemory(t *testing.T) {
	one, _ := impl.ParseMoves("b=a,a=b,c=1")
	two, _ := impl.ParseMoves("b=a,a=b,c=1")
	one = one[:cap(one)]
	clear(one)
	if impl.FormatMoves(two) != "b=a,a=b,c=1" {
		t.Errorf("two results share memory: %q", two)
	}
}
