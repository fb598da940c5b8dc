package tests

import (
	"math/rand"
	"slices"
	"strings"
	"testing"

	"loop.example/parallelmoves/impl"
)

// waiting returns the moves without idle ones in the order of their places.
func (l model) waiting() model { return model(l.busy()).sorted() }

// ahead reports whether one of the moves is not idle and none of the others has its To as From.
func (l model) ahead(m impl.Move) bool {
	return m.To != m.From && !slices.ContainsFunc(l, func(other impl.Move) bool { return other != m && other.From == m.To })
}

func (l model) next() (impl.Move, bool) {
	for _, m := range l.busy() {
		if model(l.busy()).ahead(m) {
			return m, true
		}
	}
	return impl.Move{}, false
}

// without returns all moves but one.
func (l model) without(m impl.Move) model {
	return slices.DeleteFunc(slices.Clone(l), func(other impl.Move) bool { return other == m })
}

// reading returns moves with another place in place of one, wherever they have it as From.
func (l model) reading(from string, other string) model {
	list := slices.Clone(l)
	for i, m := range list {
		if m.From == from {
			list[i].From = other
		}
	}
	return list
}

func (l model) rest(m impl.Move) (model, bool) {
	if !l.valid() || !slices.Contains(l, m) || !l.ahead(m) {
		return nil, false
	}
	return l.behind(m), true
}

// behind does not ask whether moves are valid, since some of them may read the spare place.
func (l model) behind(m impl.Move) model {
	if oneOf(digitLetters, m.From) {
		return l.without(m)
	}
	return l.without(m).reading(m.From, m.To)
}

func (l model) stepsInOrder() []impl.Step {
	seq := []impl.Step{}
	left := l.waiting()
	for len(left) > 0 {
		if m, ok := left.next(); ok {
			seq = append(seq, take(m.To, m.From))
			left = left.behind(m)
		} else {
			first := left[0].To
			seq = append(seq, take("t", first))
			left = left.reading(first, "t")
		}
	}
	return seq
}

func (l model) withoutSpare() (model, bool) {
	order, left := model{}, l.waiting()
	for len(left) > 0 {
		m, ok := left.next()
		if !ok {
			return nil, false
		}
		order = append(order, m)
		left = left.without(m)
	}
	return order, true
}

func (l model) ordered() bool {
	for i, m := range l {
		if slices.ContainsFunc(l[:i], func(before impl.Move) bool { return before.To != before.From && before.To == m.From }) {
			return false
		}
	}
	return true
}

// oneByOne returns the steps of moves as they stand.
func oneByOne(list []impl.Move) []impl.Step {
	seq := []impl.Step{}
	for _, m := range list {
		seq = append(seq, take(m.To, m.From))
	}
	return seq
}

// does reports, by the model of chapter 2, whether steps do moves.
func does(seq []impl.Step, list []impl.Move) bool {
	effect, ok := stepModel(seq).effect()
	return ok && slices.Equal(effect, model(list).waiting())
}

// someMoves returns moves of all places from all others and from digits, idle ones and some that are not valid.
func someMoves() []impl.Move {
	list := []impl.Move{{}, {To: "a"}, {From: "a"}, {To: "t", From: "a"}, {To: "a", From: "t"}, {To: "t", From: "t"}, {To: "1", From: "a"}, {To: "ab", From: "c"}, {To: "a", From: "bc"}}
	for _, to := range strings.Split(placeLetters, "") {
		for _, from := range strings.Split(sourceLetters, "") {
			list = append(list, impl.Move{To: to, From: from})
		}
	}
	return list
}

// checkOrdering checks the results of all functions of chapter 5 for moves against the model.
func checkOrdering(t *testing.T, list []impl.Move) {
	t.Helper()
	want := model(list)
	text := want.format()
	if got, ok := impl.OrderMoves(list); !slices.Equal(got, want.stepsInOrder()) || !ok {
		t.Errorf("%s: OrderMoves = %v, %v, not %v", text, got, ok, want.stepsInOrder())
	}
	if got, closed := impl.NeedsSpare(list), len(want.closed()) > 0; got != closed {
		t.Errorf("%s: NeedsSpare = %v", text, got)
	}
	if got, n := impl.CountInOrder(list), len(want.busy())+len(want.closed()); got != n {
		t.Errorf("%s: CountInOrder = %d, not %d", text, got, n)
	}
	next, some := want.next()
	if got, ok := impl.NextMove(list); got != next || ok != some {
		t.Errorf("%s: NextMove = %q, %v, not %q, %v", text, got, ok, next, some)
	}
	if got := impl.IsOrdered(list); got != want.ordered() {
		t.Errorf("%s: IsOrdered = %v", text, got)
	}
	order, some := want.withoutSpare()
	if got, ok := impl.WithoutSpare(list); !slices.Equal(got, order) || ok != some {
		t.Errorf("%s: WithoutSpare = %q, %v, not %q, %v", text, got, ok, order, some)
	}
	for _, m := range append(slices.Clone(list), someMoves()...) {
		rest, some := want.rest(m)
		if got, ok := impl.RestBehind(list, m); !slices.Equal(got, rest) || ok != some {
			t.Errorf("%s: RestBehind(%q) = %q, %v, not %q, %v", text, m, got, ok, rest, some)
		}
	}
}

// checkSteps checks promise 5 without the model of chapter 5: the steps do the moves, each place of a move that is not idle
// is written to once, and the spare place once for each closed ring.
func checkSteps(t *testing.T, list []impl.Move) {
	t.Helper()
	seq, ok := impl.OrderMoves(list)
	if !ok || !does(seq, list) || !impl.IsRight(seq, list) {
		t.Errorf("%q: OrderMoves = %v, %v", list, seq, ok)
	}
	places := slices.Repeat([]string{"t"}, len(model(list).closed()))
	for _, m := range model(list).busy() {
		places = append(places, m.To)
	}
	written := []string{}
	for _, step := range seq {
		written = append(written, step.To)
	}
	slices.Sort(places)
	slices.Sort(written)
	if !slices.Equal(written, places) || impl.CountInOrder(list) != len(places) || impl.NeedsSpare(list) != slices.Contains(places, "t") {
		t.Errorf("%q: OrderMoves = %v, CountInOrder = %d, NeedsSpare = %v", list, seq, impl.CountInOrder(list), impl.NeedsSpare(list))
	}
}

// checkOneByOne checks without the model of chapter 5 that moves which are done one after the other do what they do at once,
// if they stand in an order in which they can be done so, and that they stand in none just if there is a ring.
func checkOneByOne(t *testing.T, list []impl.Move) {
	t.Helper()
	if got := impl.IsOrdered(list); got != does(oneByOne(list), list) {
		t.Errorf("%q: IsOrdered = %v", list, got)
	}
	got, ok := impl.WithoutSpare(list)
	if ok != (len(model(list).rings()) == 0) {
		t.Errorf("%q: WithoutSpare = %q, %v", list, got, ok)
	}
	if ok && (!slices.Equal(model(got).sorted(), model(list).waiting()) || !does(oneByOne(got), list) || !impl.IsOrdered(got)) {
		t.Errorf("%q: WithoutSpare = %q, %v", list, got, ok)
	}
}

// checkRests checks without the model of chapter 5 that a move and then the rest do what all moves do.
func checkRests(t *testing.T, list []impl.Move) {
	t.Helper()
	able := 0
	for _, m := range list {
		rest, ok := impl.RestBehind(list, m)
		if !ok {
			continue
		}
		able++
		if !slices.Equal(model{m}.then(rest), model(list).waiting()) {
			t.Errorf("%q: RestBehind(%q) = %q", list, m, rest)
		}
	}
	m, ok := impl.NextMove(list)
	if ok != (able > 0) {
		t.Errorf("%q: NextMove = %q, %v, but %d moves can be done ahead", list, m, ok, able)
	}
	if _, can := impl.RestBehind(list, m); can != ok {
		t.Errorf("%q: NextMove = %q, %v", list, m, ok)
	}
}

// checkOrderingRefused checks the results of all functions of chapter 5 for a list that is no moves.
func checkOrderingRefused(t *testing.T, list []impl.Move) {
	t.Helper()
	if got, ok := impl.OrderMoves(list); len(got) != 0 || ok {
		t.Errorf("%q: OrderMoves = %v, %v", list, got, ok)
	}
	if impl.NeedsSpare(list) || impl.CountInOrder(list) != -1 {
		t.Errorf("%q: NeedsSpare = %v, CountInOrder = %d", list, impl.NeedsSpare(list), impl.CountInOrder(list))
	}
	if got, ok := impl.NextMove(list); got != (impl.Move{}) || ok {
		t.Errorf("%q: NextMove = %q, %v", list, got, ok)
	}
	if impl.IsOrdered(list) {
		t.Errorf("%q: IsOrdered = true", list)
	}
	if got, ok := impl.WithoutSpare(list); !isRefused(got, ok) {
		t.Errorf("%q: WithoutSpare = %q, %v", list, got, ok)
	}
	for _, m := range append(slices.Clone(list), someMoves()...) {
		if got, ok := impl.RestBehind(list, m); !isRefused(got, ok) {
			t.Errorf("%q: RestBehind(%q) = %q, %v", list, m, got, ok)
		}
	}
}

func checkAllOfOrdering(t *testing.T, list []impl.Move) {
	t.Helper()
	checkOrdering(t, list)
	checkSteps(t, list)
	checkOneByOne(t, list)
	checkRests(t, list)
}

func TestOrderingOfTheDocument(t *testing.T) {
	list := movesOf("a=b,b=a,c=a")
	seq, ok := impl.OrderMoves(list)
	if text := stepModel(seq).format(); text != "c=a;a=b;b=c" || !ok {
		t.Errorf("OrderMoves = %q, %v", text, ok)
	}
	if impl.NeedsSpare(list) || impl.CountInOrder(list) != 3 {
		t.Errorf("NeedsSpare = %v, CountInOrder = %d", impl.NeedsSpare(list), impl.CountInOrder(list))
	}
}

func TestOrderMoves(t *testing.T) {
	tests := []struct {
		list   string
		steps  string
		closed int
	}{
		// No moves, and idle ones.
		{"-", "-", 0},
		{"a=a", "-", 0},
		{"C=C,a=a,b=b", "-", 0},
		{"a=a,b=2", "b=2", 0},
		{"a=a,b=a,c=a", "b=a;c=b", 0},
		{"c=c,b=a,a=b", "t=a;a=b;b=t", 1},
		{"c=c,d=c,e=c,a=b,b=a", "d=c;e=d;t=a;a=b;b=t", 1},
		// No ring.
		{"b=a", "b=a", 0},
		{"a=b,b=c,c=d", "a=b;b=c;c=d", 0},
		{"b=a,c=b,d=c", "d=c;c=b;b=a", 0},
		{"A=f,C=B,B=A", "C=B;B=A;A=f", 0},
		{"b=a,c=b,d=c,e=d,f=e,A=f,B=A,C=B", "C=B;B=A;A=f;f=e;e=d;d=c;c=b;b=a", 0},
		// A place that several ones read is read once itself.
		{"b=c,a=c", "a=c;b=a", 0},
		{"d=a,b=a,C=a", "b=a;d=b;C=d", 0},
		{"a=C,b=C,c=C,d=C,e=C,f=C,A=C,B=C", "a=C;b=a;c=b;d=c;e=d;f=e;A=f;B=A", 0},
		// Moves to a place that others read.
		{"a=1,b=a", "b=a;a=1", 0},
		{"b=a,a=1,c=b", "c=b;b=a;a=1", 0},
		{"a=1,b=a,c=a", "b=a;a=1;c=b", 0},
		{"a=f,b=a,c=a,d=b", "c=a;a=f;d=b;b=c", 0},
		// Digits.
		{"a=7", "a=7", 0},
		{"b=7,a=7", "a=7;b=7", 0},
		{"a=0,c=9,b=0", "a=0;b=0;c=9", 0},
		{"a=7,b=a,c=7", "b=a;a=7;c=7", 0},
		{"a=0,b=1,c=2,d=3,e=4,f=5,A=6,B=7,C=8", "a=0;b=1;c=2;d=3;e=4;f=5;A=6;B=7;C=8", 0},
		// Rings that nobody reads from outside.
		{"b=a,a=b", "t=a;a=b;b=t", 1},
		{"C=a,a=C", "t=a;a=C;C=t", 1},
		{"C=B,B=C", "t=B;B=C;C=t", 1},
		{"c=b,b=a,a=c", "t=a;a=c;c=b;b=t", 1},
		{"a=b,b=c,c=d,d=e,e=f,f=A,A=B,B=C,C=a", "t=a;a=b;b=c;c=d;d=e;e=f;f=A;A=B;B=C;C=t", 1},
		{"a=b,b=a,c=d,d=c", "t=a;a=b;b=t;t=c;c=d;d=t", 2},
		{"a=d,d=a,b=c,c=b", "t=a;a=d;d=t;t=b;b=c;c=t", 2},
		{"A=B,B=A,b=a,a=b,C=1", "C=1;t=a;a=b;b=t;t=A;A=B;B=t", 2},
		{"a=C,C=b,b=a,c=B,B=c,d=A,A=d,e=f,f=e", "t=a;a=C;C=b;b=t;t=c;c=B;B=t;t=d;d=A;A=t;t=e;e=f;f=t", 4},
		// Rings with arms.
		{"a=b,b=a,c=b", "c=b;b=a;a=c", 0},
		{"a=b,b=a,c=a,d=c", "d=c;c=a;a=b;b=c", 0},
		{"a=b,b=a,c=a,d=a", "c=a;a=b;b=c;d=b", 0},
		{"a=b,b=a,c=a,d=b", "c=a;a=b;b=c;d=a", 0},
		{"a=b,b=c,c=a,d=a,e=d,A=B,B=A", "e=d;d=a;a=b;b=c;c=d;t=A;A=B;B=t", 1},
		{"a=b,b=a,c=a,A=B,B=A,C=B", "c=a;a=b;b=c;C=B;B=A;A=C", 0},
	}
	for _, test := range tests {
		list := movesOf(test.list)
		seq, ok := impl.OrderMoves(list)
		if text := stepModel(seq).format(); text != test.steps || !ok {
			t.Errorf("%s: OrderMoves = %s, %v", test.list, text, ok)
		}
		if got := impl.NeedsSpare(list); got != (test.closed > 0) {
			t.Errorf("%s: NeedsSpare = %v", test.list, got)
		}
		if got := impl.CountInOrder(list); got != len(seq) || got != impl.CountBusy(list)+test.closed {
			t.Errorf("%s: CountInOrder = %d", test.list, got)
		}
		checkAllOfOrdering(t, list)
	}
}

func TestNextMove(t *testing.T) {
	tests := []struct{ list, want string }{
		// None of the others has its To as From.
		{"a=1", "a=1"},
		{"b=a", "b=a"},
		{"b=a,a=b,c=a", "c=a"},
		{"b=a,c=b,d=c", "d=c"},
		{"a=b,b=a,C=3", "C=3"},
		{"a=b,b=a,c=b,d=c", "d=c"},
		// The first one as they stand in the list.
		{"c=1,a=2", "c=1"},
		{"a=2,c=1", "a=2"},
		{"c=d,a=b", "c=d"},
		{"C=A,B=A,a=A", "C=A"},
		{"A=1,C=A,a=A", "C=A"},
		// Idle ones are none and are in nobody's way.
		{"c=c,a=a,b=2", "b=2"},
		{"b=a,a=a", "b=a"},
		{"b=b,a=b", "a=b"},
		// None can be done ahead of all others.
		{"-", ""},
		{"a=a", ""},
		{"a=a,b=b,C=C", ""},
		{"a=b,b=a", ""},
		{"a=b,b=a,c=c", ""},
		{"a=b,b=c,c=a,e=d,d=e", ""},
	}
	for _, test := range tests {
		list, want := movesOf(test.list), impl.Move{}
		if test.want != "" {
			want = movesOf(test.want)[0]
		}
		if got, ok := impl.NextMove(list); got != want || ok != (test.want != "") {
			t.Errorf("%s: NextMove = %q, %v", test.list, got, ok)
		}
		checkAllOfOrdering(t, list)
	}
}

func TestRestBehind(t *testing.T) {
	tests := []struct{ list, move, want string }{
		{"b=a", "b=a", "-"},
		{"a=7", "a=7", "-"},
		{"b=a,a=b,c=a", "c=a", "b=c,a=b"},
		{"c=a,a=b,b=a", "c=a", "a=b,b=c"},
		{"b=a,c=a,d=a", "c=a", "b=c,d=c"},
		{"C=f,f=1,a=f,e=d", "a=f", "C=a,f=1,e=d"},
		// The To of others stays as it is.
		{"c=b,b=a", "c=b", "b=a"},
		{"c=b,b=a,d=b", "c=b", "b=a,d=c"},
		{"c=b,b=a,d=b", "d=b", "c=d,b=a"},
		// A digit stays as it is.
		{"b=1,a=1", "b=1", "a=1"},
		{"b=1,a=1", "a=1", "b=1"},
		{"C=0,b=0,a=0,c=d", "b=0", "C=0,a=0,c=d"},
		// Idle ones are among the others.
		{"b=a,d=d", "b=a", "d=d"},
		{"a=a,b=a", "b=a", "a=b"},
		{"a=a,d=d,b=a,c=a", "c=a", "a=c,d=d,b=c"},
	}
	for _, test := range tests {
		list := movesOf(test.list)
		if got, ok := impl.RestBehind(list, movesOf(test.move)[0]); !isMoves(got, ok, movesOf(test.want)) {
			t.Errorf("%s: RestBehind(%s) = %q, %v", test.list, test.move, got, ok)
		}
		checkAllOfOrdering(t, list)
	}
}

func TestMovesWithoutRest(t *testing.T) {
	tests := []struct{ list, move string }{
		// None of them.
		{"-", "a=b"},
		{"-", "a=a"},
		{"b=a,a=b,c=a", "c=b"},
		{"b=a,a=b,c=a", "c=1"},
		{"b=a,a=b,c=a", "d=a"},
		{"b=a,a=b,c=a", "a=c"},
		{"b=a", "d=d"},
		{"b=a", "t=a"},
		{"b=a", "b=t"},
		// An idle one.
		{"a=a", "a=a"},
		{"b=a,d=d", "d=d"},
		{"b=a,a=a", "a=a"},
		// Others have its To as From.
		{"b=a,a=b,c=a", "b=a"},
		{"b=a,a=b,c=a", "a=b"},
		{"b=a,a=b", "a=b"},
		{"b=a,a=b", "b=a"},
		{"c=b,b=a", "b=a"},
		{"b=a,c=b", "b=a"},
		{"a=7,b=a", "a=7"},
	}
	for _, test := range tests {
		if got, ok := impl.RestBehind(movesOf(test.list), movesOf(test.move)[0]); !isRefused(got, ok) {
			t.Errorf("%s: RestBehind(%s) = %q, %v", test.list, test.move, got, ok)
		}
	}
}

func TestIsOrdered(t *testing.T) {
	tests := []struct {
		list string
		want bool
	}{
		{"-", true},
		{"a=a", true},
		{"a=a,b=b,C=C", true},
		{"b=a", true},
		{"a=1", true},
		// Readers of a place stand ahead of the move to it.
		{"c=b,b=a", true},
		{"b=a,a=1", true},
		{"e=a,c=2,a=1", true},
		{"d=b,c=b,b=a,a=f", true},
		{"f=A,A=B,B=C,C=0", true},
		// One stands behind it.
		{"b=a,c=b", false},
		{"a=1,b=a", false},
		{"a=1,c=2,d=3,e=a", false},
		{"d=b,b=a,c=b", false},
		{"B=C,A=B,f=A", false},
		{"C=0,B=C", false},
		// Several read the same.
		{"a=1,b=1", true},
		{"a=b,c=b", true},
		{"C=b,a=b,b=1", true},
		// Rings.
		{"a=b,b=a", false},
		{"b=a,a=b", false},
		{"c=a,a=b,b=a", false},
		{"c=a,a=b,b=c", false},
		// Idle ones change nothing.
		{"a=a,b=a", true},
		{"b=a,a=a", true},
		{"c=c,b=c,d=c", true},
		{"c=c,b=c,d=b", false},
	}
	for _, test := range tests {
		list := movesOf(test.list)
		if got := impl.IsOrdered(list); got != test.want {
			t.Errorf("%s: IsOrdered = %v", test.list, got)
		}
		checkAllOfOrdering(t, list)
	}
}

func TestWithoutSpare(t *testing.T) {
	tests := []struct{ list, want string }{
		// No moves, and idle ones.
		{"-", "-"},
		{"a=a", "-"},
		{"C=C,a=a", "-"},
		{"b=a,c=b,d=c,e=e", "d=c,c=b,b=a"},
		{"a=a,c=a,b=a", "b=a,c=a"},
		// The first one that can be done ahead is taken, in the order of places.
		{"C=1,a=2", "a=2,C=1"},
		{"C=B,B=A,A=f", "C=B,B=A,A=f"},
		{"A=f,B=A,C=B", "C=B,B=A,A=f"},
		{"a=b,b=c,c=d", "a=b,b=c,c=d"},
		{"d=a,e=1,b=a,a=f", "b=a,d=a,a=f,e=1"},
		// All others stay as they are.
		{"b=c,a=c", "a=c,b=c"},
		{"d=a,b=a,C=a", "b=a,d=a,C=a"},
		{"a=1,b=a,c=a", "b=a,c=a,a=1"},
		{"a=f,b=a,c=a,d=b", "c=a,d=b,b=a,a=f"},
		// Digits.
		{"b=7,a=7", "a=7,b=7"},
		{"a=7,b=a,c=7", "b=a,a=7,c=7"},
	}
	for _, test := range tests {
		list := movesOf(test.list)
		if got, ok := impl.WithoutSpare(list); !isMoves(got, ok, movesOf(test.want)) {
			t.Errorf("%s: WithoutSpare = %q, %v", test.list, got, ok)
		}
		checkAllOfOrdering(t, list)
	}
	for _, text := range []string{"a=b,b=a", "b=a,a=b,c=c", "b=a,a=b,c=a", "a=b,b=a,C=7", "a=b,b=c,c=a,d=a,e=d", "C=1,f=e,A=B,B=A", "a=C,C=b,b=a,c=B,B=c"} {
		list := movesOf(text)
		if got, ok := impl.WithoutSpare(list); !isRefused(got, ok) {
			t.Errorf("%s: WithoutSpare = %q, %v", text, got, ok)
		}
		checkAllOfOrdering(t, list)
	}
}

// ordersOf returns the moves of a list in all orders.
func ordersOf(list []impl.Move) [][]impl.Move {
	if len(list) == 0 {
		return [][]impl.Move{{}}
	}
	orders := [][]impl.Move{}
	for i, m := range list {
		for _, rest := range ordersOf(slices.Delete(slices.Clone(list), i, i+1)) {
			orders = append(orders, append([]impl.Move{m}, rest...))
		}
	}
	return orders
}

func TestOrderingOfAllMovesOfThreePlaces(t *testing.T) {
	for _, sorted := range allMovesOf("bfB", "bfB5") {
		for _, list := range ordersOf(sorted) {
			checkAllOfOrdering(t, list)
		}
		if t.Failed() {
			return
		}
	}
}

func TestOrderingAgainstTheModel(t *testing.T) {
	checkAllOfOrdering(t, nil)
	r := rand.New(rand.NewSource(11))
	for range 3000 {
		checkAllOfOrdering(t, randomMoves(r))
		if t.Failed() {
			return
		}
	}
}

// Rings and arms are frequent here: each place but a few is on a ring, and the few read any place.
func TestOrderingOfRingsWithArms(t *testing.T) {
	r := rand.New(rand.NewSource(12))
	for _, lengths := range partitions(len(placeLetters), len(placeLetters)) {
		for arms := range 5 {
			list := exchangeWith(r, lengths)
			for i := range list[:arms] {
				list[i].From = randomLetter(r, placeLetters)
			}
			checkAllOfOrdering(t, list)
		}
		if t.Failed() {
			return
		}
	}
}

// fewestTried tries all sequences of steps between some places, the spare place and digits,
// and returns how many steps the shortest one has that does the moves.
func fewestTried(list []impl.Move, places string) int {
	cells, digits, goal := places+"t", "", ""
	for _, p := range strings.Split(places, "") {
		from := model(list).source(p)
		goal += from
		if oneOf(digitLetters, from) {
			digits += from
		}
	}
	seen := map[string]bool{cells: true}
	for n, states := 0, []string{cells}; ; n++ {
		behind := []string{}
		for _, s := range states {
			if strings.HasPrefix(s, goal) {
				return n
			}
			for to := range s {
				for _, value := range strings.Split(s+digits, "") {
					if next := s[:to] + value + s[to+1:]; !seen[next] {
						seen[next] = true
						behind = append(behind, next)
					}
				}
			}
		}
		states = behind
	}
}

// TestClosedRingsNeedOneMoreStep checks without the model that no fewer steps are enough, so that a closed ring does need a spare place.
func TestClosedRingsNeedOneMoreStep(t *testing.T) {
	for _, list := range allMovesOf("bfB", "bfB5") {
		if got, want := impl.CountInOrder(list), fewestTried(list, "bfB"); got != want {
			t.Errorf("%q: CountInOrder = %d, but %d steps are enough", list, got, want)
		}
	}
	for _, text := range []string{"a=b,b=a,c=d,d=c", "a=b,b=c,c=d,d=a", "a=b,b=a,c=a,d=b", "a=b,b=c,c=a,d=c", "a=b,b=a,c=d,d=7", "d=a,c=d,b=c"} {
		list := movesOf(text)
		if got, want := impl.CountInOrder(list), fewestTried(list, "abcd"); got != want {
			t.Errorf("%s: CountInOrder = %d, but %d steps are enough", text, got, want)
		}
	}
}

// TestMovesOneBehindTheOther does always the next move, and checks that this does all moves just if no ring is closed.
func TestMovesOneBehindTheOther(t *testing.T) {
	r := rand.New(rand.NewSource(13))
	for range 1000 {
		list := randomMoves(r)
		left, done := list, []impl.Move{}
		for m, ok := impl.NextMove(left); ok; m, ok = impl.NextMove(left) {
			left, _ = impl.RestBehind(left, m)
			done = append(done, m)
		}
		if impl.NeedsSpare(list) != (impl.CountBusy(left) > 0) {
			t.Errorf("%q: NeedsSpare = %v, but %q is left", list, impl.NeedsSpare(list), left)
		}
		effect, _ := stepModel(oneByOne(done)).effect()
		if !slices.Equal(model(effect).then(left), model(list).waiting()) {
			t.Errorf("%q: %q and then %q do something else", list, done, left)
		}
	}
}

func TestOrderingOfListsThatAreNoMoves(t *testing.T) {
	for _, list := range invalidLists() {
		checkOrderingRefused(t, list)
	}
	checkOrderingRefused(t, slices.Repeat(moves("a", "b"), 1000))
}

func TestOrderingSharesNoMemory(t *testing.T) {
	lists := append(invalidLists(), movesOf("b=a,a=b"), movesOf("b=a,a=b,c=a"), movesOf("c=a,a=b,b=a"), movesOf("a=b,b=c,c=a,d=1"), movesOf("d=c,a=b,c=1,e=c"), movesOf("a=a,b=a"), movesOf("a=a"), movesOf("-"))
	for _, list := range lists {
		checkOwnMemory(t, list, map[string]func([]impl.Move) ([]impl.Step, bool){"OrderMoves": impl.OrderMoves})
		calls := map[string]func([]impl.Move) ([]impl.Move, bool){"WithoutSpare": impl.WithoutSpare}
		for _, m := range list {
			calls["RestBehind "+m.To+"="+m.From] = func(list []impl.Move) ([]impl.Move, bool) { return impl.RestBehind(list, m) }
		}
		checkOwnMemory(t, list, calls)
		short, room := roomBehind(list)
		before := slices.Clone(room)
		impl.NeedsSpare(short)
		impl.CountInOrder(short)
		impl.NextMove(short)
		impl.IsOrdered(short)
		if !slices.Equal(room, before) {
			t.Errorf("%q: an argument was changed", list)
		}
	}
}
