package tests

import (
	"math"
	"math/rand"
	"slices"
	"strings"
	"testing"

	"loop.example/parallelmoves/impl"
)

// notPowers are numbers of times that moves cannot be done.
var notPowers = []int{-1, -2, -59, -60, -61, 61, 62, 64, 120, 1 << 32, 1<<32 + 1, -1 << 32, math.MaxInt, math.MinInt, math.MinInt + 1}

// movesWith returns the moves, without idle ones and in the order of their places, whose sources a function tells.
func movesWith(source func(place string) string) model {
	list := model{}
	for _, p := range strings.Split(placeLetters, "") {
		if from := source(p); from != p {
			list = append(list, impl.Move{To: p, From: from})
		}
	}
	return list
}

// origin follows the sources from a place on, n times or up to a digit.
func (l model) origin(name string, n int) string {
	for ; n > 0 && oneOf(placeLetters, name); n-- {
		name = l.source(name)
	}
	return name
}

func (l model) then(second model) model {
	return movesWith(func(p string) string { return l.origin(second.source(p), 1) })
}

func (l model) power(n int) model {
	return movesWith(func(p string) string { return l.origin(p, n) })
}

// lost returns the places from which no place has its value.
func (l model) lost() string {
	kept := ""
	for _, p := range strings.Split(placeLetters, "") {
		kept += l.source(p)
	}
	return strings.Map(func(p rune) rune {
		if strings.ContainsRune(kept, p) {
			return -1
		}
		return p
	}, placeLetters)
}

func (l model) undo() model {
	return movesWith(func(p string) string {
		for _, to := range strings.Split(placeLetters, "") {
			if l.source(to) == p {
				return to
			}
		}
		return ""
	})
}

func (l model) order() int {
	n := 1
	for len(l.power(n)) > 0 {
		n++
	}
	return n
}

func (l model) settles() int {
	greatest := 0
	for _, p := range strings.Split(placeLetters, "") {
		greatest = max(greatest, l.depth(p))
	}
	return greatest
}

func isMoves(got []impl.Move, ok bool, want model) bool {
	return ok && slices.Equal(got, want)
}

func isRefused(got []impl.Move, ok bool) bool {
	return !ok && len(got) == 0
}

// checkTogether checks the results of all functions of chapter 4 that take one list against the model.
func checkTogether(t *testing.T, list []impl.Move) {
	t.Helper()
	want := model(list)
	text := want.format()
	for _, n := range []int{0, 1, 2, 3, 4, 5, 6, 7, 8, 9, 15, 16, 20, 31, 32, 33, 47, 58, 59, 60} {
		if got, ok := impl.PowerOf(list, n); !isMoves(got, ok, want.power(n)) {
			t.Errorf("%s: PowerOf(%d) = %q, %v, not %q", text, n, got, ok, want.power(n))
		}
	}
	if got, ok := impl.LostBy(list); got != want.lost() || !ok {
		t.Errorf("%s: LostBy = %q, %v, not %q", text, got, ok, want.lost())
	}
	if got := impl.SettlesAfter(list); got != want.settles() {
		t.Errorf("%s: SettlesAfter = %d, not %d", text, got, want.settles())
	}
	if got, still := impl.IsStill(list), slices.Equal(want.power(2), want.power(1)); got != still {
		t.Errorf("%s: IsStill = %v", text, got)
	}
	if want.lost() != "" {
		checkNoExchange(t, list)
		return
	}
	if !impl.IsExchange(list) {
		t.Errorf("%s: IsExchange = false", text)
	}
	if got, ok := impl.UndoMoves(list); !isMoves(got, ok, want.undo()) {
		t.Errorf("%s: UndoMoves = %q, %v, not %q", text, got, ok, want.undo())
	}
	if got := impl.OrderOf(list); got != want.order() {
		t.Errorf("%s: OrderOf = %d, not %d", text, got, want.order())
	}
}

func checkNoExchange(t *testing.T, list []impl.Move) {
	t.Helper()
	if impl.IsExchange(list) {
		t.Errorf("%q: IsExchange = true", list)
	}
	if got, ok := impl.UndoMoves(list); !isRefused(got, ok) {
		t.Errorf("%q: UndoMoves = %q, %v", list, got, ok)
	}
	if got := impl.OrderOf(list); got != -1 {
		t.Errorf("%q: OrderOf = %d", list, got)
	}
}

func checkCompose(t *testing.T, first []impl.Move, second []impl.Move) {
	t.Helper()
	want := model(first).then(second)
	if got, ok := impl.ComposeMoves(first, second); !isMoves(got, ok, want) {
		t.Errorf("ComposeMoves(%q, %q) = %q, %v, not %q", first, second, got, ok, want)
	}
}

// behind returns a state behind moves, and the empty string if the moves are none.
func behind(list []impl.Move, state string) string {
	after, _ := impl.AtOnce(list, state)
	return after
}

// checkStates checks promise 4 without the model: moves behind moves do to a state what they do one behind the other.
func checkStates(t *testing.T, first []impl.Move, second []impl.Move, n int) {
	t.Helper()
	both, _ := impl.ComposeMoves(first, second)
	if got, want := behind(both, cellLetters), behind(second, behind(first, cellLetters)); got != want {
		t.Errorf("ComposeMoves(%q, %q) = %q, which does %q, not %q", first, second, both, got, want)
	}
	often, _ := impl.PowerOf(first, n)
	want := cellLetters
	for range n {
		want = behind(first, want)
	}
	if got := behind(often, cellLetters); got != want {
		t.Errorf("PowerOf(%q, %d) = %q, which does %q, not %q", first, n, often, got, want)
	}
	if back, ok := impl.UndoMoves(first); ok && behind(back, behind(first, cellLetters)) != cellLetters {
		t.Errorf("UndoMoves(%q) = %q", first, back)
	}
}

// checkSettled checks in states that moves lose values as often as SettlesAfter says, and no more after that.
func checkSettled(t *testing.T, list []impl.Move) {
	t.Helper()
	state, n := cellLetters, 0
	for {
		after := behind(list, state)
		if !strings.ContainsFunc(state, func(value rune) bool {
			return oneOf(placeLetters, string(value)) && !strings.ContainsRune(after, value)
		}) {
			break
		}
		state = after
		n++
	}
	if got := impl.SettlesAfter(list); got != n {
		t.Errorf("%q: SettlesAfter = %d, but values get lost %d times", list, got, n)
	}
}

func TestTogetherOfTheDocument(t *testing.T) {
	list := movesOf("a=b,b=c,c=a,d=e,e=d")
	if !impl.IsExchange(list) || impl.OrderOf(list) != 6 {
		t.Errorf("IsExchange = %v, OrderOf = %d", impl.IsExchange(list), impl.OrderOf(list))
	}
	if impl.MaxPower != 60 {
		t.Errorf("MaxPower = %d", impl.MaxPower)
	}
}

func TestComposeMoves(t *testing.T) {
	tests := []struct{ first, second, want string }{
		// No moves, and idle ones.
		{"-", "-", "-"},
		{"b=a", "-", "b=a"},
		{"-", "b=a", "b=a"},
		{"a=a", "b=b", "-"},
		{"a=a,C=C", "-", "-"},
		{"-", "a=a", "-"},
		{"b=a", "b=b", "b=a"},
		{"b=b", "b=a", "b=a"},
		{"b=a", "a=a", "b=a"},
		{"a=a,c=b", "a=c,c=c", "a=b,c=b"},
		// Values that are passed on, and others that are not.
		{"b=a", "c=b", "b=a,c=a"},
		{"c=b", "b=a", "b=a,c=b"},
		{"b=a,c=b", "d=c", "b=a,c=b,d=b"},
		{"b=a", "c=b,d=c", "b=a,c=a,d=c"},
		{"b=a", "d=c", "b=a,d=c"},
		{"C=A", "a=C", "a=A,C=A"},
		{"a=B", "C=a", "a=B,C=B"},
		{"b=a,c=b,d=c,e=d,f=e,A=f,B=A,C=B", "b=a,c=b,d=c,e=d,f=e,A=f,B=A,C=B", "b=a,c=a,d=b,e=c,f=d,A=e,B=f,C=A"},
		// Numbers that are passed on.
		{"a=7", "b=a", "a=7,b=7"},
		{"b=a", "a=7", "a=7,b=a"},
		{"a=0", "b=a,c=a,d=b", "a=0,b=0,c=0,d=b"},
		{"a=7,b=a", "a=b,b=a", "b=7"},
		{"b=1", "c=1", "b=1,c=1"},
		{"a=1,b=2", "a=b,b=a", "a=2,b=1"},
		// Values that others take the place of.
		{"a=b", "a=c", "a=c"},
		{"a=7", "a=3", "a=3"},
		{"a=b", "a=7", "a=7"},
		{"a=7", "a=b", "a=b"},
		{"a=7", "a=a", "a=7"},
		// Values that come back.
		{"a=b", "b=a", "a=b"},
		{"a=b,b=a", "a=b,b=a", "-"},
		{"a=b,b=c,c=a", "a=c,b=a,c=b", "-"},
		{"a=b,b=c,c=a", "c=a,a=b,b=c", "a=c,b=a,c=b"},
		{"a=b,b=a", "b=c,c=b", "a=b,b=c,c=a"},
		{"b=c,c=b", "a=b,b=a", "a=c,b=a,c=b"},
		// The order of the places, not that of the lists.
		{"C=a,f=1", "A=C,a=f", "a=1,f=1,A=a,C=a"},
		{"C=1,B=2,A=3,f=4", "e=5,d=6,c=7,b=8,a=9", "a=9,b=8,c=7,d=6,e=5,f=4,A=3,B=2,C=1"},
	}
	for _, test := range tests {
		first, second := movesOf(test.first), movesOf(test.second)
		if got, ok := impl.ComposeMoves(first, second); !isMoves(got, ok, movesOf(test.want)) {
			t.Errorf("ComposeMoves(%s, %s) = %q, %v", test.first, test.second, got, ok)
		}
		checkCompose(t, first, second)
		checkStates(t, first, second, 2)
	}
	if got, ok := impl.ComposeMoves(nil, nil); !isMoves(got, ok, nil) {
		t.Errorf("ComposeMoves(nil, nil) = %q, %v", got, ok)
	}
}

func TestPowerOf(t *testing.T) {
	tests := []struct {
		list string
		n    int
		want string
	}{
		// No moves, and idle ones.
		{"-", 0, "-"},
		{"-", 1, "-"},
		{"-", 60, "-"},
		{"a=a,C=C", 0, "-"},
		{"a=a,C=C", 1, "-"},
		{"a=a,C=C", 60, "-"},
		// Once is without idle moves and in the order of places.
		{"b=c,a=a", 0, "-"},
		{"b=c,a=a", 1, "b=c"},
		{"C=1,c=a,b=c", 0, "-"},
		{"C=1,c=a,b=c", 1, "b=c,c=a,C=1"},
		// Rings.
		{"a=b,b=a", 2, "-"},
		{"a=b,b=a", 59, "a=b,b=a"},
		{"a=b,b=a", 60, "-"},
		{"a=b,b=c,c=a", 2, "a=c,b=a,c=b"},
		{"a=b,b=c,c=a", 3, "-"},
		{"a=b,b=c,c=a", 59, "a=c,b=a,c=b"},
		{"a=b,b=c,c=d,d=e,e=f,f=A,A=a", 60, "a=e,b=f,c=A,d=a,e=b,f=c,A=d"},
		{"a=b,b=c,c=d,d=e,e=f,f=A,A=B,B=C,C=a", 9, "-"},
		{"a=b,b=c,c=d,d=e,e=f,f=A,A=B,B=C,C=a", 60, "a=A,b=B,c=C,d=a,e=b,f=c,A=d,B=e,C=f"},
		{"a=b,b=c,c=d,d=e,e=a,f=A,A=B,B=C,C=f", 10, "f=B,A=C,B=f,C=A"},
		{"a=b,b=c,c=d,d=e,e=a,f=A,A=B,B=C,C=f", 20, "-"},
		// A ring with arms.
		{"a=b,b=a,c=a,d=c", 2, "c=b,d=a"},
		{"a=b,b=a,c=a,d=c", 3, "a=b,b=a,c=a,d=b"},
		{"a=b,b=a,c=a,d=c", 59, "a=b,b=a,c=a,d=b"},
		{"a=b,b=a,c=a,d=c", 60, "c=b,d=a"},
		// No ring.
		{"b=a,c=b,d=c", 2, "b=a,c=a,d=b"},
		{"b=a,c=b,d=c", 3, "b=a,c=a,d=a"},
		{"b=a,c=b,d=c", 60, "b=a,c=a,d=a"},
		// Numbers.
		{"a=7", 0, "-"},
		{"a=7", 1, "a=7"},
		{"a=7", 60, "a=7"},
		{"a=7,b=a,c=b", 1, "a=7,b=a,c=b"},
		{"a=7,b=a,c=b", 2, "a=7,b=7,c=a"},
		{"a=7,b=a,c=b", 3, "a=7,b=7,c=7"},
		{"a=7,b=a,c=b", 60, "a=7,b=7,c=7"},
	}
	for _, test := range tests {
		list := movesOf(test.list)
		if got, ok := impl.PowerOf(list, test.n); !isMoves(got, ok, movesOf(test.want)) {
			t.Errorf("PowerOf(%s, %d) = %q, %v", test.list, test.n, got, ok)
		}
		checkTogether(t, list)
		checkStates(t, list, list, test.n)
	}
}

func TestAllPowers(t *testing.T) {
	for _, text := range []string{"-", "a=b,b=c,c=d,d=e,e=a,f=A,A=B,B=C,C=f", "a=b,b=c,c=a,d=a,e=d,A=B,B=A,C=7", "b=a,c=b,d=c,e=d,f=e,A=f,B=A,C=B,a=9"} {
		list := movesOf(text)
		for n := range 61 {
			checkStates(t, list, nil, n)
			if got, ok := impl.PowerOf(list, n); !isMoves(got, ok, model(list).power(n)) {
				t.Errorf("PowerOf(%s, %d) = %q, %v", text, n, got, ok)
			}
		}
	}
}

func TestPowersThatAreNone(t *testing.T) {
	for _, text := range []string{"-", "a=a", "a=b", "a=b,b=a", "a=7,b=a"} {
		for _, n := range notPowers {
			if got, ok := impl.PowerOf(movesOf(text), n); !isRefused(got, ok) {
				t.Errorf("PowerOf(%s, %d) = %q, %v", text, n, got, ok)
			}
		}
	}
}

func TestExchanges(t *testing.T) {
	tests := []struct {
		list  string
		undo  string
		order int
	}{
		// Exchanges that change nothing.
		{"-", "-", 1},
		{"a=a", "-", 1},
		{"C=C,b=b", "-", 1},
		{"a=a,b=b,c=c,d=d,e=e,f=f,A=A,B=B,C=C", "-", 1},
		// One ring.
		{"a=b,b=a", "a=b,b=a", 2},
		{"C=a,a=C,b=b", "a=C,C=a", 2},
		{"a=b,b=c,c=a", "a=c,b=a,c=b", 3},
		{"c=b,A=A,a=c,b=a", "a=b,b=c,c=a", 3},
		{"B=f,f=C,C=B", "f=B,B=C,C=f", 3},
		{"a=b,b=c,c=d,d=e,e=f,f=A,A=B,B=a", "a=B,b=a,c=b,d=c,e=d,f=e,A=f,B=A", 8},
		{"a=b,b=c,c=d,d=e,e=f,f=A,A=B,B=C,C=a", "a=C,b=a,c=b,d=c,e=d,f=e,A=f,B=A,C=B", 9},
		// Several rings.
		{"a=b,b=a,A=B,B=A", "a=b,b=a,A=B,B=A", 2},
		{"a=b,b=c,c=a,d=e,e=d", "a=c,b=a,c=b,d=e,e=d", 6},
		{"a=b,b=a,c=d,d=e,e=f,f=c", "a=b,b=a,c=f,d=c,e=d,f=e", 4},
		{"a=b,b=a,c=d,d=e,e=c,f=A,A=B,B=C,C=f", "a=b,b=a,c=e,d=c,e=d,f=C,A=f,B=A,C=B", 12},
		{"a=b,b=c,c=a,d=e,e=f,f=A,A=B,B=d", "a=c,b=a,c=b,d=B,e=d,f=e,A=f,B=A", 15},
		{"a=b,b=c,c=d,d=e,e=a,f=A,A=B,B=C,C=f", "a=e,b=a,c=b,d=c,e=d,f=C,A=f,B=A,C=B", 20},
	}
	for _, test := range tests {
		list := movesOf(test.list)
		if !impl.IsExchange(list) {
			t.Errorf("%s: IsExchange = false", test.list)
		}
		if got, ok := impl.UndoMoves(list); !isMoves(got, ok, movesOf(test.undo)) {
			t.Errorf("%s: UndoMoves = %q, %v", test.list, got, ok)
		}
		if got := impl.OrderOf(list); got != test.order {
			t.Errorf("%s: OrderOf = %d", test.list, got)
		}
		checkTogether(t, list)
		checkSettled(t, list)
	}
}

func TestMovesThatLoseValues(t *testing.T) {
	tests := []struct {
		list    string
		lost    string
		settles int
		still   bool
	}{
		// Moves that lose none.
		{"-", "", 0, true},
		{"a=a", "", 0, true},
		{"a=a,b=b,C=C", "", 0, true},
		{"a=b,b=a", "", 0, false},
		{"a=b,b=a,c=c", "", 0, false},
		{"a=b,b=c,c=a,A=B,B=A", "", 0, false},
		// Moves that do the same twice as once.
		{"a=b", "a", 1, true},
		{"a=1", "a", 1, true},
		{"a=a,b=a", "b", 1, true},
		{"b=a,c=a,d=1", "bcd", 1, true},
		{"C=1,a=2", "aC", 1, true},
		{"a=7,b=7", "ab", 1, true},
		{"a=C,b=C,c=C,d=C,e=C,f=C,A=C,B=C", "abcdefAB", 1, true},
		{"a=0,b=1,c=2,d=3,e=4,f=5,A=6,B=7,C=8", "abcdefABC", 1, true},
		// Moves that do more twice than once.
		{"b=a,c=b", "c", 2, false},
		{"a=1,b=a", "b", 2, false},
		{"a=b,b=1", "a", 2, false},
		{"C=a,b=C", "b", 2, false},
		{"b=a,c=b,d=1,A=a", "cdA", 2, false},
		{"b=a,c=b,d=c,e=d,f=e,A=f,B=A,C=B", "C", 8, false},
		{"b=a,c=b,d=c,e=d,f=e,A=f,B=A,C=B,a=9", "C", 9, false},
		// Rings with arms, and rings beside others that lose values.
		{"a=b,b=a,c=a", "c", 1, false},
		{"a=b,b=a,c=1", "c", 1, false},
		{"a=b,b=a,c=a,d=7", "cd", 1, false},
		{"a=b,b=a,c=a,d=c", "d", 2, false},
		{"a=b,b=c,c=a,d=a,e=d", "e", 2, false},
		{"a=b,b=a,c=b,d=c,e=d,f=e,A=f,B=A,C=B", "C", 7, false},
		{"a=b,b=a,c=b,A=B,B=C,C=3", "cA", 3, false},
	}
	for _, test := range tests {
		list := movesOf(test.list)
		if got, ok := impl.LostBy(list); got != test.lost || !ok {
			t.Errorf("%s: LostBy = %q, %v", test.list, got, ok)
		}
		if got := impl.SettlesAfter(list); got != test.settles {
			t.Errorf("%s: SettlesAfter = %d", test.list, got)
		}
		if got := impl.IsStill(list); got != test.still {
			t.Errorf("%s: IsStill = %v", test.list, got)
		}
		if test.lost != "" {
			checkNoExchange(t, list)
		}
		checkTogether(t, list)
		checkSettled(t, list)
	}
}

// allMovesOf returns all moves to some places, where each stays or gets one of some sources.
func allMovesOf(places string, sources string) [][]impl.Move {
	lists := [][]impl.Move{{}}
	for _, to := range strings.Split(places, "") {
		for _, list := range lists {
			for _, from := range strings.Split(sources, "") {
				lists = append(lists, append(slices.Clone(list), impl.Move{To: to, From: from}))
			}
		}
	}
	return lists
}

func TestTogetherOfAllMovesOfThreePlaces(t *testing.T) {
	lists := allMovesOf("bfB", "bfB5")
	for _, first := range lists {
		checkTogether(t, first)
		checkSettled(t, first)
		for _, second := range lists {
			checkCompose(t, first, second)
			checkStates(t, first, second, 3)
		}
		if t.Failed() {
			return
		}
	}
}

func TestTogetherAgainstTheModel(t *testing.T) {
	r := rand.New(rand.NewSource(9))
	for range 2000 {
		first, second := randomMoves(r), randomMoves(r)
		checkTogether(t, first)
		checkSettled(t, first)
		checkCompose(t, first, second)
		checkStates(t, first, second, r.Intn(61))
		if t.Failed() {
			return
		}
	}
}

// partitions returns all lists of lengths from most on down that fill up some places.
func partitions(places int, most int) [][]int {
	if places == 0 {
		return [][]int{{}}
	}
	lists := [][]int{}
	for first := min(places, most); first > 0; first-- {
		for _, rest := range partitions(places-first, first) {
			lists = append(lists, append([]int{first}, rest...))
		}
	}
	return lists
}

// exchangeWith makes an exchange with rings of some lengths through places in any order; a ring of one place is an idle move.
func exchangeWith(r *rand.Rand, lengths []int) []impl.Move {
	places := r.Perm(len(placeLetters))
	list := []impl.Move{}
	for _, length := range lengths {
		ring := places[:length]
		places = places[length:]
		for i, to := range ring {
			from := ring[(i+1)%length]
			list = append(list, impl.Move{To: placeLetters[to : to+1], From: placeLetters[from : from+1]})
		}
	}
	r.Shuffle(len(list), func(i, j int) { list[i], list[j] = list[j], list[i] })
	return list
}

func TestExchangesOfAllLengths(t *testing.T) {
	r := rand.New(rand.NewSource(10))
	highest := 0
	for _, lengths := range partitions(len(placeLetters), len(placeLetters)) {
		for range 20 {
			list := exchangeWith(r, lengths)
			checkTogether(t, list)
			checkSettled(t, list)
			back, _ := impl.UndoMoves(list)
			if got, ok := impl.ComposeMoves(list, back); !isMoves(got, ok, nil) {
				t.Errorf("%q and then %q: %q, %v", list, back, got, ok)
			}
			if got, ok := impl.ComposeMoves(back, list); !isMoves(got, ok, nil) {
				t.Errorf("%q and then %q: %q, %v", back, list, got, ok)
			}
			highest = max(highest, impl.OrderOf(list))
		}
	}
	if highest != 20 {
		t.Errorf("the highest OrderOf is %d", highest)
	}
}

func TestTogetherOfListsThatAreNoMoves(t *testing.T) {
	for _, bad := range invalidLists() {
		checkNoExchange(t, bad)
		for _, good := range [][]impl.Move{nil, movesOf("a=a"), movesOf("a=b,b=a"), movesOf("b=a,c=7")} {
			if got, ok := impl.ComposeMoves(bad, good); !isRefused(got, ok) {
				t.Errorf("ComposeMoves(%q, %q) = %q, %v", bad, good, got, ok)
			}
			if got, ok := impl.ComposeMoves(good, bad); !isRefused(got, ok) {
				t.Errorf("ComposeMoves(%q, %q) = %q, %v", good, bad, got, ok)
			}
		}
		if got, ok := impl.ComposeMoves(bad, bad); !isRefused(got, ok) {
			t.Errorf("ComposeMoves(%q, %q) = %q, %v", bad, bad, got, ok)
		}
		for _, n := range append([]int{0, 1, 2, 60}, notPowers...) {
			if got, ok := impl.PowerOf(bad, n); !isRefused(got, ok) {
				t.Errorf("PowerOf(%q, %d) = %q, %v", bad, n, got, ok)
			}
		}
		if got, ok := impl.LostBy(bad); got != "" || ok {
			t.Errorf("%q: LostBy = %q, %v", bad, got, ok)
		}
		if impl.SettlesAfter(bad) != -1 || impl.IsStill(bad) {
			t.Errorf("%q: SettlesAfter = %d, IsStill = %v", bad, impl.SettlesAfter(bad), impl.IsStill(bad))
		}
	}
}

func TestTogetherSharesNoMemory(t *testing.T) {
	calls := map[string]func([]impl.Move) ([]impl.Move, bool){
		"ComposeMoves behind none": func(list []impl.Move) ([]impl.Move, bool) { return impl.ComposeMoves(nil, list) },
		"ComposeMoves ahead":       func(list []impl.Move) ([]impl.Move, bool) { return impl.ComposeMoves(list, nil) },
		"ComposeMoves twice":       func(list []impl.Move) ([]impl.Move, bool) { return impl.ComposeMoves(list, list) },
		"PowerOf 0":                func(list []impl.Move) ([]impl.Move, bool) { return impl.PowerOf(list, 0) },
		"PowerOf 1":                func(list []impl.Move) ([]impl.Move, bool) { return impl.PowerOf(list, 1) },
		"PowerOf 60":               func(list []impl.Move) ([]impl.Move, bool) { return impl.PowerOf(list, 60) },
		"UndoMoves":                impl.UndoMoves,
	}
	lists := append(invalidLists(), movesOf("b=a,a=b"), movesOf("a=b,b=c,c=a"), movesOf("b=a,c=1"), movesOf("a=a"), movesOf("-"))
	for _, list := range lists {
		checkOwnMemory(t, list, calls)
		short, room := roomBehind(list)
		before := slices.Clone(room)
		impl.IsExchange(short)
		impl.OrderOf(short)
		impl.SettlesAfter(short)
		impl.LostBy(short)
		impl.IsStill(short)
		if !slices.Equal(room, before) {
			t.Errorf("%q: an argument was changed", list)
		}
	}
}
