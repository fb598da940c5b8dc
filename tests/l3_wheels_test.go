package tests

import (
	"math/rand"
	"slices"
	"strings"
	"testing"

	"loop.example/parallelmoves/impl"
)

// movesOf makes a list from a text of moves of three bytes, so that a test does not need ParseMoves to be right.
func movesOf(text string) []impl.Move {
	list := []impl.Move{}
	for part := range strings.SplitSeq(text, ",") {
		if part != "-" {
			list = append(list, impl.Move{To: part[:1], From: part[2:]})
		}
	}
	return list
}

// ringFrom returns the ring of a place from this one on, and the empty string if the place is on none.
func (l model) ringFrom(place string) string {
	text := place
	for range placeLetters {
		at := l.source(text[len(text)-1:])
		if at == place && len(text) > 1 {
			return text
		}
		if at == place || !oneOf(placeLetters, at) {
			return ""
		}
		text += at
	}
	return "" // the way goes round a ring that the place is not on
}

func (l model) rings() []string {
	list := []string{}
	for _, p := range strings.Split(placeLetters, "") {
		if ring := l.ringFrom(p); ring != "" && !strings.Contains(strings.Join(list, ""), p) {
			list = append(list, ring)
		}
	}
	return list
}

func (l model) closed() []string {
	return slices.DeleteFunc(l.rings(), func(ring string) bool {
		return slices.ContainsFunc(strings.Split(ring, ""), func(p string) bool { return len(l.readers(p)) != 1 })
	})
}

// wheel adds to a place, as long as there are some, all places of which one is the source of one that is there, or the other way round.
func (l model) wheel(place string) string {
	there := map[string]bool{place: true}
	for range placeLetters {
		for _, p := range strings.Split(placeLetters, "") {
			if s := l.source(p); oneOf(placeLetters, s) && (there[s] || there[p]) {
				there[s], there[p] = true, true
			}
		}
	}
	text := ""
	for _, p := range strings.Split(placeLetters, "") {
		if there[p] {
			text += p
		}
	}
	return text
}

func (l model) wheels() []string {
	list := []string{}
	for _, p := range strings.Split(placeLetters, "") {
		if wheel := l.wheel(p); len(wheel) > 1 && !slices.Contains(list, wheel) {
			list = append(list, wheel)
		}
	}
	return list
}

func (l model) leaves() string {
	text := ""
	for _, p := range strings.Split(placeLetters, "") {
		if l.source(p) != p && l.readers(p) == "" {
			text += p
		}
	}
	return text
}

func (l model) way(place string) string {
	text := place
	for next := l.source(place); !strings.Contains(text, next); next = l.source(next) {
		text += next
	}
	return text
}

func (l model) depth(place string) int {
	if oneOf(digitLetters, place) || l.source(place) == place || l.ringFrom(place) != "" {
		return 0
	}
	return 1 + l.depth(l.source(place))
}

// checkWheels checks the results of all functions of chapter 3 for moves against the model.
func checkWheels(t *testing.T, list []impl.Move) {
	t.Helper()
	want := model(list)
	text := want.format()
	if got, ok := impl.RingsOf(list); !slices.Equal(got, want.rings()) || !ok {
		t.Errorf("%s: RingsOf = %q, %v, not %q", text, got, ok, want.rings())
	}
	if got, ok := impl.ClosedRings(list); !slices.Equal(got, want.closed()) || !ok {
		t.Errorf("%s: ClosedRings = %q, %v, not %q", text, got, ok, want.closed())
	}
	if got, ok := impl.WheelsOf(list); !slices.Equal(got, want.wheels()) || !ok {
		t.Errorf("%s: WheelsOf = %q, %v, not %q", text, got, ok, want.wheels())
	}
	if got, ok := impl.LeavesOf(list); got != want.leaves() || !ok {
		t.Errorf("%s: LeavesOf = %q, %v, not %q", text, got, ok, want.leaves())
	}
	if got := impl.CountBusy(list); got != len(want.busy()) {
		t.Errorf("%s: CountBusy = %d, not %d", text, got, len(want.busy()))
	}
	for _, p := range strings.Split(placeLetters, "") {
		if got, ok := impl.WheelOf(list, p); got != want.wheel(p) || !ok {
			t.Errorf("%s: WheelOf(%q) = %q, %v, not %q", text, p, got, ok, want.wheel(p))
		}
		if got, ok := impl.WayBack(list, p); got != want.way(p) || !ok {
			t.Errorf("%s: WayBack(%q) = %q, %v, not %q", text, p, got, ok, want.way(p))
		}
		if got := impl.DepthOf(list, p); got != want.depth(p) {
			t.Errorf("%s: DepthOf(%q) = %d, not %d", text, p, got, want.depth(p))
		}
	}
}

// checkOneEnd checks promise 3 for moves, without the model:
// each wheel has one ring, all of it, or else one place that stays as it is or gets a digit.
func checkOneEnd(t *testing.T, list []impl.Move) {
	t.Helper()
	rings, one := impl.RingsOf(list)
	wheels, two := impl.WheelsOf(list)
	if !one || !two {
		t.Errorf("%q: RingsOf: %v, WheelsOf: %v", list, one, two)
	}
	for _, ring := range rings {
		if !slices.ContainsFunc(wheels, func(wheel string) bool { return strings.Trim(ring, wheel) == "" }) {
			t.Errorf("%q: the ring %q is in no wheel of %q", list, ring, wheels)
		}
	}
	for _, wheel := range wheels {
		ends := 0
		for _, p := range strings.Split(wheel, "") {
			if source, _ := impl.SourceOf(list, p); source == p || oneOf(digitLetters, source) {
				ends++
			}
			if slices.ContainsFunc(rings, func(ring string) bool { return strings.HasPrefix(ring, p) }) {
				ends++
			}
		}
		if ends != 1 {
			t.Errorf("%q: the wheel %q has %d ends", list, wheel, ends)
		}
	}
}

// checkWheelsRefused checks the results of all functions of chapter 3 for a list that is no moves.
func checkWheelsRefused(t *testing.T, list []impl.Move) {
	t.Helper()
	if got, ok := impl.RingsOf(list); len(got) != 0 || ok {
		t.Errorf("%q: RingsOf = %q, %v", list, got, ok)
	}
	if got, ok := impl.ClosedRings(list); len(got) != 0 || ok {
		t.Errorf("%q: ClosedRings = %q, %v", list, got, ok)
	}
	if got, ok := impl.WheelsOf(list); len(got) != 0 || ok {
		t.Errorf("%q: WheelsOf = %q, %v", list, got, ok)
	}
	if got, ok := impl.LeavesOf(list); got != "" || ok {
		t.Errorf("%q: LeavesOf = %q, %v", list, got, ok)
	}
	if got := impl.CountBusy(list); got != -1 {
		t.Errorf("%q: CountBusy = %d", list, got)
	}
	for _, name := range []string{"a", "b", "f", "C", "1", "t", ""} {
		checkPlaceRefused(t, list, name)
	}
}

// checkPlaceRefused checks the results of the functions that take a place where there is none, or no moves.
func checkPlaceRefused(t *testing.T, list []impl.Move, name string) {
	t.Helper()
	if got, ok := impl.WheelOf(list, name); got != "" || ok {
		t.Errorf("%q: WheelOf(%q) = %q, %v", list, name, got, ok)
	}
	if got, ok := impl.WayBack(list, name); got != "" || ok {
		t.Errorf("%q: WayBack(%q) = %q, %v", list, name, got, ok)
	}
	if got := impl.DepthOf(list, name); got != -1 {
		t.Errorf("%q: DepthOf(%q) = %d", list, name, got)
	}
}

func TestWheelsOfMoves(t *testing.T) {
	tests := []struct {
		list   string
		rings  string // texts with spaces between them
		closed string
		wheels string
		leaves string
		busy   int
	}{
		{"-", "", "", "", "", 0},
		// Idle moves.
		{"a=a", "", "", "", "", 0},
		{"a=a,b=b,C=C", "", "", "", "", 0},
		{"a=a,b=a,c=c", "", "", "ab", "b", 1},
		{"a=b,b=a,c=c", "ab", "ab", "ab", "", 2},
		// One ring, of two places up to all of them.
		{"a=b,b=a", "ab", "ab", "ab", "", 2},
		{"C=a,a=C", "aC", "aC", "aC", "", 2},
		{"a=b,b=c,c=a", "abc", "abc", "abc", "", 3},
		{"c=b,b=a,a=c", "acb", "acb", "abc", "", 3},
		{"B=f,f=C,C=B", "fCB", "fCB", "fBC", "", 3},
		{"A=a,a=B,B=A", "aBA", "aBA", "aAB", "", 3},
		{"a=b,b=c,c=d,d=e,e=f,f=A,A=B,B=C,C=a", "abcdefABC", "abcdefABC", "abcdefABC", "", 9},
		{"b=a,c=b,d=c,e=d,f=e,A=f,B=A,C=B,a=C", "aCBAfedcb", "aCBAfedcb", "abcdefABC", "", 9},
		// Several rings.
		{"B=A,A=B,b=a,a=b,f=1", "ab AB", "ab AB", "ab AB", "f", 5},
		{"a=d,d=a,b=c,c=b", "ad bc", "ad bc", "ad bc", "", 4},
		{"a=C,C=b,b=a,c=B,B=c,d=A,A=d,e=f,f=e", "aCb cB dA ef", "aCb cB dA ef", "abC cB dA ef", "", 9},
		// Rings that are read from outside, and others that are not.
		{"a=b,b=a,c=b", "ab", "", "abc", "c", 3},
		{"a=b,b=a,c=a", "ab", "", "abc", "c", 3},
		{"a=b,b=a,c=a,d=b", "ab", "", "abcd", "cd", 4},
		{"a=b,b=c,c=a,d=a,e=d", "abc", "", "abcde", "e", 5},
		{"a=b,b=c,c=a,A=c,B=A,C=B", "abc", "", "abcABC", "C", 6},
		{"a=b,b=c,c=a,d=a,e=d,A=B,B=A", "abc AB", "AB", "abcde AB", "e", 7},
		{"a=b,b=a,A=B,B=A,C=A", "ab AB", "ab", "ab ABC", "C", 5},
		{"d=e,e=d,a=f,b=a,f=d,c=f", "de", "", "abcdef", "bc", 6},
		{"a=b,b=a,c=d,d=c,e=b,f=c,A=1", "ab cd", "", "abe cdf", "efA", 7},
		// No ring.
		{"b=a,c=b", "", "", "abc", "c", 2},
		{"a=b,b=c,c=d", "", "", "abcd", "a", 3},
		{"a=b,c=b,A=b", "", "", "abcA", "acA", 3},
		{"a=f,b=f,d=e,C=B", "", "", "abf de BC", "abdC", 4},
		{"a=C,B=c,b=A", "", "", "aC bA cB", "abB", 3},
		// Numbers, which places do not hang together by.
		{"a=2", "", "", "", "a", 1},
		{"a=7,b=7", "", "", "", "ab", 2},
		{"a=7,b=a,c=7,d=c", "", "", "ab cd", "bd", 4},
		{"a=a,b=2", "", "", "", "b", 1},
		{"a=0,b=1,c=2,d=3,e=4,f=5,A=6,B=7,C=8", "", "", "", "abcdefABC", 9},
	}
	for _, test := range tests {
		list := movesOf(test.list)
		rings, one := impl.RingsOf(list)
		closed, two := impl.ClosedRings(list)
		wheels, three := impl.WheelsOf(list)
		leaves, four := impl.LeavesOf(list)
		if !slices.Equal(rings, strings.Fields(test.rings)) || !one {
			t.Errorf("%s: RingsOf = %q, %v", test.list, rings, one)
		}
		if !slices.Equal(closed, strings.Fields(test.closed)) || !two {
			t.Errorf("%s: ClosedRings = %q, %v", test.list, closed, two)
		}
		if !slices.Equal(wheels, strings.Fields(test.wheels)) || !three {
			t.Errorf("%s: WheelsOf = %q, %v", test.list, wheels, three)
		}
		if leaves != test.leaves || !four {
			t.Errorf("%s: LeavesOf = %q, %v", test.list, leaves, four)
		}
		if got := impl.CountBusy(list); got != test.busy {
			t.Errorf("%s: CountBusy = %d", test.list, got)
		}
		checkWheels(t, list)
		checkOneEnd(t, list)
	}
}

func TestWaysBack(t *testing.T) {
	tests := []struct {
		list  string
		place string
		way   string
		wheel string
		depth int
	}{
		// A place that no move names, or that has an idle move.
		{"-", "a", "a", "a", 0},
		{"-", "C", "C", "C", 0},
		{"a=b,b=a", "f", "f", "f", 0},
		{"a=b,b=1", "B", "B", "B", 0},
		{"a=a", "a", "a", "a", 0},
		{"a=a,b=a", "a", "a", "ab", 0},
		// The end is a place that stays as it is.
		{"a=b", "b", "b", "ab", 0},
		{"a=b", "a", "ab", "ab", 1},
		{"a=b,b=b", "a", "ab", "ab", 1},
		{"b=a,c=b,d=c,e=d,f=e,A=f,B=A,C=B", "C", "CBAfedcba", "abcdefABC", 8},
		{"b=a,c=b,d=c,e=d,f=e,A=f,B=A,C=B", "a", "a", "abcdefABC", 0},
		{"a=C,C=C,b=a,B=a", "b", "baC", "abBC", 2},
		// The end is a digit.
		{"a=7", "a", "a7", "a", 1},
		{"b=0", "b", "b0", "b", 1},
		{"A=B,B=7", "A", "AB7", "AB", 2},
		{"A=B,B=7,C=7,a=C", "a", "aC7", "aC", 2},
		{"b=a,c=b,d=c,e=d,f=e,A=f,B=A,C=B,a=9", "C", "CBAfedcba9", "abcdefABC", 9},
		// A place of a ring.
		{"a=b,b=a", "a", "ab", "ab", 0},
		{"a=b,b=a", "b", "ba", "ab", 0},
		{"a=b,b=c,c=a", "b", "bca", "abc", 0},
		{"a=b,b=c,c=a,d=a,e=d", "a", "abc", "abcde", 0},
		{"a=b,b=c,c=d,d=e,e=f,f=A,A=B,B=C,C=a", "f", "fABCabcde", "abcdefABC", 0},
		// The end is a place whose source comes again.
		{"a=b,b=c,c=a,d=a,e=d", "d", "dabc", "abcde", 1},
		{"a=b,b=c,c=a,d=a,e=d", "e", "edabc", "abcde", 2},
		{"a=b,b=c,c=a,d=b,e=d", "e", "edbca", "abcde", 2},
		{"a=b,b=a,c=b,d=c,e=d,f=e,A=f,B=A,C=B", "C", "CBAfedcba", "abcdefABC", 7},
		{"A=B,B=A,C=B,a=C,b=a,c=b,d=c,e=d,f=e", "f", "fedcbaCBA", "abcdefABC", 7},
		{"a=b,b=a,c=b,A=B,B=A", "c", "cba", "abc", 1},
	}
	for _, test := range tests {
		list := movesOf(test.list)
		if got, ok := impl.WayBack(list, test.place); got != test.way || !ok {
			t.Errorf("%s: WayBack(%q) = %q, %v", test.list, test.place, got, ok)
		}
		if got, ok := impl.WheelOf(list, test.place); got != test.wheel || !ok {
			t.Errorf("%s: WheelOf(%q) = %q, %v", test.list, test.place, got, ok)
		}
		if got := impl.DepthOf(list, test.place); got != test.depth {
			t.Errorf("%s: DepthOf(%q) = %d", test.list, test.place, got)
		}
	}
}

func TestWheelsOfAllMovesOfFourPlaces(t *testing.T) {
	sources := []string{"", "b", "f", "A", "C", "3"}
	for n := range 6 * 6 * 6 * 6 {
		list := []impl.Move{}
		for i, rest := 0, n; i < 4; i, rest = i+1, rest/6 {
			if from := sources[rest%6]; from != "" {
				list = append(list, impl.Move{To: sources[i+1], From: from})
			}
		}
		checkWheels(t, list)
		checkOneEnd(t, list)
		if t.Failed() {
			return
		}
	}
}

func TestWheelsAgainstTheModel(t *testing.T) {
	checkWheels(t, nil)
	r := rand.New(rand.NewSource(7))
	for range 3000 {
		list := randomMoves(r)
		checkWheels(t, list)
		checkOneEnd(t, list)
		if t.Failed() {
			return
		}
	}
}

// Each place is the source of one here, so that each is on a ring or stays as it is, and rings are often long.
func TestWheelsOfExchanges(t *testing.T) {
	r := rand.New(rand.NewSource(8))
	for range 1000 {
		list := []impl.Move{}
		for to, from := range r.Perm(len(placeLetters)) {
			list = append(list, impl.Move{To: placeLetters[to : to+1], From: placeLetters[from : from+1]})
		}
		r.Shuffle(len(list), func(i, j int) { list[i], list[j] = list[j], list[i] })
		checkWheels(t, list)
		checkOneEnd(t, list)
		rings, _ := impl.RingsOf(list)
		closed, _ := impl.ClosedRings(list)
		if !slices.Equal(rings, closed) || len(strings.Join(rings, "")) != impl.CountBusy(list) {
			t.Errorf("%q: RingsOf = %q, ClosedRings = %q", list, rings, closed)
		}
		if t.Failed() {
			return
		}
	}
}

func TestWheelsOfListsThatAreNoMoves(t *testing.T) {
	for _, list := range invalidLists() {
		checkWheelsRefused(t, list)
	}
}

func TestWheelsOfPlacesThatAreNone(t *testing.T) {
	for _, list := range [][]impl.Move{nil, movesOf("a=b,b=a"), movesOf("a=7,b=1,c=9"), movesOf("a=b,b=c,c=a,d=a,e=d,A=B,B=7")} {
		for _, name := range notPlaces {
			checkPlaceRefused(t, list, name)
		}
	}
}

// roomBehind copies a list into memory that goes on behind it, so that a test can tell whether this was changed.
func roomBehind(list []impl.Move) ([]impl.Move, []impl.Move) {
	room := append(slices.Clone(list), movesOf("C=9,B=8,A=7")...)
	return room[:len(list)], room
}

// checkOwnMemory checks that the results of functions of a list share no memory with each other or with the list.
func checkOwnMemory[T comparable](t *testing.T, list []impl.Move, calls map[string]func([]impl.Move) ([]T, bool)) {
	t.Helper()
	short, room := roomBehind(list)
	before := slices.Clone(room)
	for name, call := range calls {
		one, _ := call(short)
		two, _ := call(short)
		want := slices.Clone(two)
		clear(one[:cap(one)])
		if !slices.Equal(two, want) || !slices.Equal(room, before) {
			t.Errorf("%q: a result of %s shares memory", list, name)
		}
	}
}

func TestWheelsShareNoMemory(t *testing.T) {
	calls := map[string]func([]impl.Move) ([]string, bool){"RingsOf": impl.RingsOf, "ClosedRings": impl.ClosedRings, "WheelsOf": impl.WheelsOf}
	lists := append(invalidLists(), movesOf("a=b,b=a,A=B,B=A,d=c,c=d"), movesOf("b=a,c=1"), movesOf("a=a"), moves())
	for _, list := range lists {
		checkOwnMemory(t, list, calls)
		short, room := roomBehind(list)
		before := slices.Clone(room)
		impl.WheelOf(short, "a")
		impl.LeavesOf(short)
		impl.WayBack(short, "a")
		impl.DepthOf(short, "a")
		impl.CountBusy(short)
		if !slices.Equal(room, before) {
			t.Errorf("%q: an argument was changed", list)
		}
	}
}
