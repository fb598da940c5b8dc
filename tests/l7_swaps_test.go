package tests

import (
	"math"
	"math/rand"
	"slices"
	"strings"
	"testing"

	"loop.example/parallelmoves/impl"
)

// someCosts are costs of a swap, and notCosts are numbers that are none.
var (
	someCosts = []int{0, 1, 2, 3, 4, 5, 50, 99, 100}
	notCosts  = []int{-1, -2, -99, -100, 101, 102, 200, 1 << 32, 1<<32 + 1, -1 << 32, 1<<32 - 1, math.MaxInt, math.MinInt, math.MinInt + 1}
)

// swaps returns the swaps of the rings of moves.
func (l model) swaps() []impl.Step {
	seq := []impl.Step{}
	for _, ring := range l.rings() {
		for i := 1; i < len(ring); i++ {
			seq = append(seq, swap(ring[i-1:i], ring[i:i+1]))
		}
	}
	return seq
}

func (l model) stepsWithSwaps() []impl.Step {
	seq, left := []impl.Step{}, l.waiting()
	for m, ok := left.next(); ok; m, ok = left.next() {
		seq = append(seq, take(m.To, m.From))
		left = left.without(m)
	}
	return append(seq, left.swaps()...)
}

// neighbourSwaps goes through the neighbours as long as the indices of the places that get their values are not sorted.
func (l model) neighbourSwaps() []impl.Step {
	seq, back, goals := []impl.Step{}, l.undo(), []int{}
	for _, p := range strings.Split(placeLetters, "") {
		goals = append(goals, strings.Index(placeLetters, back.source(p)))
	}
	for !slices.IsSorted(goals) {
		for i := 1; i < len(goals); i++ {
			if goals[i-1] > goals[i] {
				goals[i-1], goals[i] = goals[i], goals[i-1]
				seq = append(seq, swap(placeLetters[i-1:i], placeLetters[i:i+1]))
			}
		}
	}
	return seq
}

// inversions returns how many pairs of places have sources that stand in the other order.
func (l model) inversions() int {
	n, places := 0, strings.Split(placeLetters, "")
	for i, p := range places {
		for _, q := range places[i:] {
			if strings.Index(placeLetters, l.source(p)) > strings.Index(placeLetters, l.source(q)) {
				n++
			}
		}
	}
	return n
}

func (q stepModel) cost(swap int) int {
	cost := 0
	for _, step := range q {
		cost += map[int]int{impl.StepMove: 1, impl.StepSwap: swap}[step.Kind]
	}
	return cost
}

func isSteps(got []impl.Step, ok bool, want []impl.Step) bool {
	return ok && slices.Equal(got, want)
}

// stepsOf makes a sequence from a text of steps of three bytes, so that a test does not need ParseSequence to be right.
func stepsOf(text string) []impl.Step {
	if text == "-" {
		return nil
	}
	return steps(strings.Split(text, ";")...)
}

// checkSwaps checks the results of all functions of chapter 7 that take moves, for moves that are valid, against the model.
func checkSwaps(t *testing.T, list []impl.Move) {
	t.Helper()
	want := model(list)
	text := want.format()
	if want.lost() == "" {
		checkExchange(t, list)
	} else {
		checkNoSwaps(t, list)
	}
	ordered := want.stepsWithSwaps()
	if got, ok := impl.OrderWithSwaps(list); !isSteps(got, ok, ordered) {
		t.Errorf("%s: OrderWithSwaps = %v, %v, not %v", text, got, ok, ordered)
	}
	if got, n := impl.CountWithSwaps(list), len(want.busy())-len(want.rings()); got != n || len(ordered) != n {
		t.Errorf("%s: CountWithSwaps = %d, not %d", text, got, n)
	}
	if seq, _ := impl.OrderWithSwaps(list); !does(seq, list) || !impl.IsRight(seq, list) {
		t.Errorf("%s: OrderWithSwaps = %v", text, seq)
	}
	for _, cost := range someCosts {
		if got, n := impl.BestCost(list, cost), min(stepModel(ordered).cost(cost), len(want.busy())+len(want.closed())); got != n {
			t.Errorf("%s: BestCost(%d) = %d, not %d", text, cost, got, n)
		}
	}
	for _, cost := range notCosts {
		if got := impl.BestCost(list, cost); got != -1 {
			t.Errorf("%s: BestCost(%d) = %d", text, cost, got)
		}
	}
}

// checkExchange checks promise 7 for an exchange, by the model and by what the swaps do.
func checkExchange(t *testing.T, list []impl.Move) {
	t.Helper()
	want := model(list)
	text := want.format()
	seq, ok := impl.SwapsFor(list)
	if !isSteps(seq, ok, want.swaps()) || !does(seq, list) || !impl.IsRight(seq, list) {
		t.Errorf("%s: SwapsFor = %v, %v, not %v", text, seq, ok, want.swaps())
	}
	n := 0
	for _, ring := range want.rings() {
		n += len(ring) - 1
	}
	if got := impl.CountSwaps(list); got != n || got != len(seq) {
		t.Errorf("%s: CountSwaps = %d, not %d", text, got, n)
	}
	near, ok := impl.NeighbourSwaps(list)
	if !isSteps(near, ok, want.neighbourSwaps()) || !does(near, list) || !impl.IsRight(near, list) {
		t.Errorf("%s: NeighbourSwaps = %v, %v, not %v", text, near, ok, want.neighbourSwaps())
	}
	for _, step := range near {
		if step.Kind != impl.StepSwap || !strings.Contains(placeLetters, step.To+step.From) {
			t.Errorf("%s: NeighbourSwaps has %v", text, step)
		}
	}
	if len(near) != want.inversions() {
		t.Errorf("%s: NeighbourSwaps are %d, but %d pairs stand in the other order", text, len(near), want.inversions())
	}
	// Each swap of neighbours changes whether the number of inversions is even, and so does any other swap.
	if got, sign := impl.SignOf(list), 1-2*(want.inversions()%2); got != sign {
		t.Errorf("%s: SignOf = %d, not %d", text, got, sign)
	}
}

// checkNoSwaps checks the results of the functions that are about exchanges for a list that is none.
func checkNoSwaps(t *testing.T, list []impl.Move) {
	t.Helper()
	if got, ok := impl.SwapsFor(list); len(got) != 0 || ok {
		t.Errorf("%q: SwapsFor = %v, %v", list, got, ok)
	}
	if got, ok := impl.NeighbourSwaps(list); len(got) != 0 || ok {
		t.Errorf("%q: NeighbourSwaps = %v, %v", list, got, ok)
	}
	if count, sign := impl.CountSwaps(list), impl.SignOf(list); count != -1 || sign != 0 {
		t.Errorf("%q: CountSwaps = %d, SignOf = %d", list, count, sign)
	}
}

// checkSwapsRefused checks the results of all functions of chapter 7 for a list that is no moves.
func checkSwapsRefused(t *testing.T, list []impl.Move) {
	t.Helper()
	checkNoSwaps(t, list)
	if got, ok := impl.OrderWithSwaps(list); len(got) != 0 || ok {
		t.Errorf("%q: OrderWithSwaps = %v, %v", list, got, ok)
	}
	if got := impl.CountWithSwaps(list); got != -1 {
		t.Errorf("%q: CountWithSwaps = %d", list, got)
	}
	for _, cost := range append(slices.Clone(someCosts), notCosts...) {
		if got := impl.BestCost(list, cost); got != -1 {
			t.Errorf("%q: BestCost(%d) = %d", list, cost, got)
		}
	}
}

func TestConstantsOfSwaps(t *testing.T) {
	if impl.MaxCost != 100 {
		t.Errorf("MaxCost = %d", impl.MaxCost)
	}
}

func TestSwapsOfTheDocument(t *testing.T) {
	list := movesOf("a=b,b=c,c=a")
	if got, ok := impl.SwapsFor(list); !isSteps(got, ok, steps("a~b", "b~c")) {
		t.Errorf("SwapsFor = %v, %v", got, ok)
	}
	if got, ok := impl.NeighbourSwaps(list); !isSteps(got, ok, steps("a~b", "b~c")) {
		t.Errorf("NeighbourSwaps = %v, %v", got, ok)
	}
	list = movesOf("b=a,a=b,c=a")
	seq, ok := impl.OrderWithSwaps(list)
	if !isSteps(seq, ok, steps("c=a", "a~b")) || impl.CountWithSwaps(list) != 2 {
		t.Errorf("OrderWithSwaps = %v, %v, CountWithSwaps = %d", seq, ok, impl.CountWithSwaps(list))
	}
	if impl.SwapCost(seq, 3) != 4 || impl.BestCost(list, 3) != 3 {
		t.Errorf("SwapCost = %d, BestCost = %d", impl.SwapCost(seq, 3), impl.BestCost(list, 3))
	}
}

func TestSwapsFor(t *testing.T) {
	tests := []struct {
		list  string
		swaps string
		near  string
		sign  int
	}{
		// No moves, and idle ones alone.
		{"-", "-", "-", 1},
		{"a=a", "-", "-", 1},
		{"C=C,a=a,f=f", "-", "-", 1},
		{"a=a,b=b,c=c,d=d,e=e,f=f,A=A,B=B,C=C", "-", "-", 1},
		// One ring of two places, neighbours first.
		{"a=b,b=a", "a~b", "a~b", -1},
		{"b=a,a=b", "a~b", "a~b", -1},
		{"A=f,f=A", "f~A", "f~A", -1},
		{"C=B,B=C", "B~C", "B~C", -1},
		{"a=c,c=a", "a~c", "a~b;b~c;a~b", -1},
		{"e=B,B=e", "e~B", "e~f;f~A;A~B;f~A;e~f", -1},
		{"C=a,a=C", "a~C", "a~b;b~c;c~d;d~e;e~f;f~A;A~B;B~C;A~B;f~A;e~f;d~e;c~d;b~c;a~b", -1},
		// Idle moves among others.
		{"a=b,b=a,c=c", "a~b", "a~b", -1},
		{"a=a,C=B,b=b,B=C", "B~C", "B~C", -1},
		{"b=b,c=a,a=c", "a~c", "a~b;b~c;a~b", -1},
		// One ring of three places or more, in both directions.
		{"c=a,a=b,b=c", "a~b;b~c", "a~b;b~c", 1},
		{"a=c,b=a,c=b", "a~c;c~b", "b~c;a~b", 1},
		{"c=b,A=A,a=c,b=a", "a~c;c~b", "b~c;a~b", 1},
		{"f=B,B=C,C=f", "f~B;B~C", "f~A;A~B;B~C;f~A", 1},
		{"a=c,c=b,b=d,d=a", "a~c;c~b;b~d", "a~b;b~c;c~d;a~b;b~c", -1},
		{"a=b,b=c,c=d,d=e,e=f,f=A,A=B,B=C,C=a", "a~b;b~c;c~d;d~e;e~f;f~A;A~B;B~C", "a~b;b~c;c~d;d~e;e~f;f~A;A~B;B~C", 1},
		{"a=C,b=a,c=b,d=c,e=d,f=e,A=f,B=A,C=B", "a~C;C~B;B~A;A~f;f~e;e~d;d~c;c~b", "B~C;A~B;f~A;e~f;d~e;c~d;b~c;a~b", 1},
		// Several rings, one behind the other, one through the other and one in the other.
		{"A=B,B=A,a=b,b=a", "a~b;A~B", "a~b;A~B", 1},
		{"a=b,b=c,c=a,d=e,e=d", "a~b;b~c;d~e", "a~b;b~c;d~e", -1},
		{"d=b,b=d,c=a,a=c", "a~c;b~d", "b~c;c~d;a~b;b~c", 1},
		{"a=d,d=a,b=c,c=b", "a~d;b~c", "a~b;b~c;c~d;a~b;b~c;a~b", 1},
		{"a=b,b=a,c=d,d=c,e=f,f=e", "a~b;c~d;e~f", "a~b;c~d;e~f", -1},
		{"a=b,b=a,c=d,d=c,e=f,f=e,A=C,C=A,B=B", "a~b;c~d;e~f;A~C", "a~b;c~d;e~f;A~B;B~C;A~B", 1},
	}
	for _, test := range tests {
		list := movesOf(test.list)
		if got, ok := impl.SwapsFor(list); !isSteps(got, ok, stepsOf(test.swaps)) {
			t.Errorf("%s: SwapsFor = %s, %v", test.list, stepModel(got).format(), ok)
		}
		if got := impl.CountSwaps(list); got != len(stepsOf(test.swaps)) {
			t.Errorf("%s: CountSwaps = %d", test.list, got)
		}
		if got, ok := impl.NeighbourSwaps(list); !isSteps(got, ok, stepsOf(test.near)) {
			t.Errorf("%s: NeighbourSwaps = %s, %v", test.list, stepModel(got).format(), ok)
		}
		if got := impl.SignOf(list); got != test.sign {
			t.Errorf("%s: SignOf = %d", test.list, got)
		}
		checkSwaps(t, list)
	}
}

// TestMostNeighbourSwaps turns all places round, for which all pairs of places are swapped once.
func TestMostNeighbourSwaps(t *testing.T) {
	list := movesOf("a=C,b=B,c=A,d=f,e=e,f=d,A=c,B=b,C=a")
	want := []impl.Step{}
	for last := len(placeLetters) - 1; last > 0; last-- {
		for i := range last {
			want = append(want, swap(placeLetters[i:i+1], placeLetters[i+1:i+2]))
		}
	}
	if got, ok := impl.NeighbourSwaps(list); !isSteps(got, ok, want) || len(got) != 36 {
		t.Errorf("NeighbourSwaps = %v, %v", got, ok)
	}
	if got, ok := impl.SwapsFor(list); !isSteps(got, ok, steps("a~C", "b~B", "c~A", "d~f")) {
		t.Errorf("SwapsFor = %v, %v", got, ok)
	}
	checkSwaps(t, list)
}

func TestMovesThatAreNoExchange(t *testing.T) {
	for _, text := range []string{"a=b", "b=a", "C=f", "a=0", "C=9", "a=b,b=c", "b=a,c=b", "a=b,c=b", "a=1,b=1", "a=7,b=a", "a=b,b=a,c=a", "c=b,a=b,b=a", "a=b,b=a,c=7", "a=b,b=a,c=c,d=c", "a=b,b=c,c=a,A=B", "a=b,b=c,c=d,d=e,e=f,f=A,A=B,B=C,C=b", "a=b,b=c,c=d,d=e,e=f,f=A,A=B,B=C,C=0", "a=0,b=1,c=2,d=3,e=4,f=5,A=6,B=7,C=8"} {
		checkNoSwaps(t, movesOf(text))
		checkSwaps(t, movesOf(text))
	}
}

func TestOrderWithSwaps(t *testing.T) {
	tests := []struct{ list, steps string }{
		// No moves, and idle ones.
		{"-", "-"},
		{"a=a", "-"},
		{"C=C,a=a,b=b", "-"},
		{"a=a,b=2", "b=2"},
		{"c=c,b=a,a=b", "a~b"},
		{"c=c,b=a,a=b,d=c", "d=c;a~b"},
		// No ring.
		{"b=a", "b=a"},
		{"b=a,c=b", "c=b;b=a"},
		{"a=b,b=c,c=d", "a=b;b=c;c=d"},
		{"A=f,B=A,C=B", "C=B;B=A;A=f"},
		{"b=a,c=b,d=c,e=d,f=e,A=f,B=A,C=B", "C=B;B=A;A=f;f=e;e=d;d=c;c=b;b=a"},
		// The first one that can be done ahead, in the order of places.
		{"C=1,a=2", "a=2;C=1"},
		{"C=B,f=e,b=a", "b=a;f=e;C=B"},
		// All others stay as they are.
		{"d=a,b=a,C=a", "b=a;d=a;C=a"},
		{"b=c,a=c", "a=c;b=c"},
		{"a=f,b=a,c=a,d=b", "c=a;d=b;b=a;a=f"},
		// Digits.
		{"a=7", "a=7"},
		{"b=7,a=7", "a=7;b=7"},
		{"a=7,b=a", "b=a;a=7"},
		{"a=0,b=1,c=2,d=3,e=4,f=5,A=6,B=7,C=8", "a=0;b=1;c=2;d=3;e=4;f=5;A=6;B=7;C=8"},
		// Rings that nobody reads from outside.
		{"a=b,b=a", "a~b"},
		{"C=a,a=C", "a~C"},
		{"c=b,b=a,a=c", "a~c;c~b"},
		{"A=B,B=A,b=a,a=b", "a~b;A~B"},
		{"A=B,B=A,b=a,a=b,C=1", "C=1;a~b;A~B"},
		{"a=b,b=a,c=1,d=c", "d=c;c=1;a~b"},
		{"a=b,b=c,c=d,d=e,e=f,f=A,A=B,B=C,C=a", "a~b;b~c;c~d;d~e;e~f;f~A;A~B;B~C"},
		// Rings with arms.
		{"a=b,b=a,c=a", "c=a;a~b"},
		{"a=b,b=a,c=b", "c=b;a~b"},
		{"a=b,b=a,c=a,d=c", "d=c;c=a;a~b"},
		{"a=b,b=a,d=b,c=a", "c=a;d=b;a~b"},
		{"a=b,b=c,c=a,d=a,e=d", "e=d;d=a;a~b;b~c"},
		{"f=C,C=f,e=f,d=0", "d=0;e=f;f~C"},
		{"B=C,C=B,a=B", "a=B;B~C"},
		{"A=B,B=A,C=B,a=b,b=a", "C=B;a~b;A~B"},
		{"a=c,c=b,b=a,d=a,A=B,B=A,C=7", "d=a;C=7;a~c;c~b;A~B"},
		{"a=b,b=a,c=b,d=c,e=d,f=e,A=f,B=A,C=B", "C=B;B=A;A=f;f=e;e=d;d=c;c=b;a~b"},
	}
	for _, test := range tests {
		list, want := movesOf(test.list), stepsOf(test.steps)
		if got, ok := impl.OrderWithSwaps(list); !isSteps(got, ok, want) {
			t.Errorf("%s: OrderWithSwaps = %s, %v", test.list, stepModel(got).format(), ok)
		}
		if got := impl.CountWithSwaps(list); got != len(want) {
			t.Errorf("%s: CountWithSwaps = %d", test.list, got)
		}
		checkSwaps(t, list)
	}
}

func TestSwapCost(t *testing.T) {
	tests := []struct {
		seq   []impl.Step
		moves int
		swaps int
	}{
		{nil, 0, 0},
		{steps(), 0, 0},
		// Moves alone.
		{steps("a=b"), 1, 0},
		{steps("C=7"), 1, 0},
		{steps("t=u"), 1, 0},
		{steps("a=a"), 1, 0},
		{steps("t=a", "a=b", "b=t"), 3, 0},
		{repeated(take("a", "b"), 60), 60, 0},
		// Swaps alone.
		{steps("a~b"), 0, 1},
		{steps("t~u"), 0, 1},
		{steps("C~C"), 0, 1},
		{steps("a~b", "b~a"), 0, 2},
		{repeated(swap("C", "t"), 60), 0, 60},
		// Both.
		{steps("a=b", "a~b"), 1, 1},
		{steps("a~b", "a=b"), 1, 1},
		{steps("a=b", "a~b", "c=1", "t~u"), 2, 2},
		{steps("u~a", "a~a", "a=a", "b~c", "d=9"), 2, 3},
		{append(repeated(swap("a", "b"), 59), take("a", "b")), 1, 59},
	}
	for _, test := range tests {
		for cost := range 101 {
			if got := impl.SwapCost(test.seq, cost); got != test.moves+test.swaps*cost {
				t.Errorf("%v: SwapCost(%d) = %d", test.seq, cost, got)
			}
		}
		for _, cost := range notCosts {
			if got := impl.SwapCost(test.seq, cost); got != -1 {
				t.Errorf("%v: SwapCost(%d) = %d", test.seq, cost, got)
			}
		}
	}
	r := rand.New(rand.NewSource(31))
	for range 1000 {
		seq, cost := randomSequence(r), r.Intn(101)
		if got := impl.SwapCost(seq, cost); got != stepModel(seq).cost(cost) {
			t.Errorf("%v: SwapCost(%d) = %d, not %d", seq, cost, got, stepModel(seq).cost(cost))
		}
	}
}

func TestSwapCostOfSequencesThatAreNotValid(t *testing.T) {
	for _, seq := range invalidSequences() {
		for _, cost := range []int{-1, 0, 1, 2, 50, 100, 101} {
			if got := impl.SwapCost(seq, cost); got != -1 {
				t.Errorf("%v: SwapCost(%d) = %d", seq, cost, got)
			}
		}
	}
}

func TestBestCost(t *testing.T) {
	tests := []struct {
		list  string
		costs map[int]int
	}{
		{"-", map[int]int{0: 0, 1: 0, 100: 0}},
		{"a=a,C=C", map[int]int{0: 0, 1: 0, 100: 0}},
		// Moves alone.
		{"b=a", map[int]int{0: 1, 1: 1, 100: 1}},
		{"b=a,c=b,d=7", map[int]int{0: 3, 1: 3, 2: 3, 100: 3}},
		// Swaps alone: the spare place costs one step more than the moves.
		{"a=b,b=a", map[int]int{0: 0, 1: 1, 2: 2, 3: 3, 4: 3, 99: 3, 100: 3}},
		{"a=b,b=c,c=a", map[int]int{0: 0, 1: 2, 2: 4, 3: 4, 100: 4}},
		{"a=b,b=a,A=B,B=A", map[int]int{0: 0, 1: 2, 2: 4, 3: 6, 4: 6, 100: 6}},
		{"a=b,b=c,c=d,d=e,e=f,f=A,A=B,B=C,C=a", map[int]int{0: 0, 1: 8, 2: 10, 100: 10}},
		// Both.
		{"a=b,b=a,c=7", map[int]int{0: 1, 1: 2, 2: 3, 3: 4, 4: 4, 100: 4}},
		{"a=b,b=a,c=c,d=c", map[int]int{0: 1, 1: 2, 2: 3, 3: 4, 4: 4, 100: 4}},
		// No spare place is needed for a ring with an arm.
		{"a=b,b=a,c=a", map[int]int{0: 1, 1: 2, 2: 3, 3: 3, 100: 3}},
		{"a=b,b=c,c=a,d=a,e=d", map[int]int{0: 2, 1: 4, 2: 5, 3: 5, 100: 5}},
	}
	for _, test := range tests {
		for cost, want := range test.costs {
			if got := impl.BestCost(movesOf(test.list), cost); got != want {
				t.Errorf("%s: BestCost(%d) = %d, not %d", test.list, cost, got, want)
			}
		}
		checkSwaps(t, movesOf(test.list))
	}
}

func TestSwapsOfAllMovesOfThreePlaces(t *testing.T) {
	for _, sorted := range allMovesOf("bfB", "bfB5") {
		for _, list := range ordersOf(sorted) {
			checkSwaps(t, list)
		}
		if t.Failed() {
			return
		}
	}
}

func TestSwapsOfAllMovesOfFourPlaces(t *testing.T) {
	for _, list := range allMovesOf("acAB", "acAB3") {
		checkSwaps(t, list)
		if t.Failed() {
			return
		}
	}
}

func TestSwapsAgainstTheModel(t *testing.T) {
	checkSwaps(t, nil)
	r := rand.New(rand.NewSource(32))
	for range 3000 {
		checkSwaps(t, randomMoves(r))
		if t.Failed() {
			return
		}
	}
}

// TestSwapsOfRingsWithArms also has exchanges with rings of all lengths, since no place is on an arm at first.
func TestSwapsOfRingsWithArms(t *testing.T) {
	r := rand.New(rand.NewSource(33))
	for _, lengths := range partitions(len(placeLetters), len(placeLetters)) {
		for arms := range 5 {
			for range 5 {
				list := exchangeWith(r, lengths)
				for i := range list[:arms] {
					list[i].From = randomLetter(r, placeLetters)
				}
				checkSwaps(t, list)
			}
		}
		if t.Failed() {
			return
		}
	}
}

// fewestSwaps returns, for each order of letters, how few swaps of any two make it from the order in which they are given.
func fewestSwaps(letters string) map[string]int {
	fewest := map[string]int{letters: 0}
	for orders := []string{letters}; len(orders) > 0; orders = orders[1:] {
		at := orders[0]
		for i := range at {
			for j := range i {
				next := at[:j] + at[i:i+1] + at[j+1:i] + at[j:j+1] + at[i+1:]
				if _, ok := fewest[next]; !ok {
					fewest[next] = fewest[at] + 1
					orders = append(orders, next)
				}
			}
		}
	}
	return fewest
}

// TestNoFewerSwapsAreEnough searches for fewer swaps, also with spare places, whose values in the end do not matter.
func TestNoFewerSwapsAreEnough(t *testing.T) {
	const places = "adfBC"
	least := map[string]int{}
	for order, n := range fewestSwaps(places + "tu") {
		order = order[:len(places)]
		if known, ok := least[order]; !ok || n < known {
			least[order] = n
		}
	}
	exchanges := 0
	for order, n := range least {
		if strings.ContainsAny(order, "tu") {
			continue
		}
		exchanges++
		list := []impl.Move{}
		for i := range places {
			list = append(list, impl.Move{To: places[i : i+1], From: order[i : i+1]})
		}
		if got := impl.CountSwaps(list); got != n {
			t.Errorf("%q: CountSwaps = %d, but %d are the fewest", list, got, n)
		}
		if got, ok := impl.SwapsFor(list); len(got) != n || !ok {
			t.Errorf("%q: SwapsFor = %v, %v, but %d are the fewest", list, got, ok, n)
		}
	}
	if exchanges != 120 {
		t.Errorf("%d exchanges were tried", exchanges)
	}
}

// TestSignsOfExchangesBehindExchanges checks that two exchanges, one behind the other, have the product of both signs.
func TestSignsOfExchangesBehindExchanges(t *testing.T) {
	r := rand.New(rand.NewSource(34))
	all := partitions(len(placeLetters), len(placeLetters))
	for range 1000 {
		first, second := exchangeWith(r, all[r.Intn(len(all))]), exchangeWith(r, all[r.Intn(len(all))])
		both := model(first).then(second)
		if got, want := impl.SignOf(both), impl.SignOf(first)*impl.SignOf(second); got != want || want == 0 {
			t.Errorf("%q and then %q: SignOf = %d, not %d", first, second, got, want)
		}
	}
}

func TestSwapsOfListsThatAreNoMoves(t *testing.T) {
	for _, list := range invalidLists() {
		checkSwapsRefused(t, list)
	}
	for _, text := range []string{"a=t,t=a", "t=u,u=t", "a=b,b=a,t=t", "a=b,b=a,a=b", "a=b,b=a,u=a", "a=b,b=a,c=g"} {
		checkSwapsRefused(t, movesOf(text))
	}
	checkSwapsRefused(t, slices.Repeat(moves("a", "b"), 1000))
}

func TestSwapsShareNoMemory(t *testing.T) {
	calls := map[string]func([]impl.Move) ([]impl.Step, bool){"SwapsFor": impl.SwapsFor, "OrderWithSwaps": impl.OrderWithSwaps, "NeighbourSwaps": impl.NeighbourSwaps}
	lists := append(invalidLists(), movesOf("b=a,a=b"), movesOf("a=b,b=c,c=a"), movesOf("c=a,a=C,C=c,B=B"), movesOf("b=a,a=b,c=a"), movesOf("a=7,b=a"), movesOf("a=a"), movesOf("-"))
	for _, list := range lists {
		checkOwnMemory(t, list, calls)
		short, room := roomBehind(list)
		before := slices.Clone(room)
		impl.CountSwaps(short)
		impl.CountWithSwaps(short)
		impl.BestCost(short, 3)
		impl.SignOf(short)
		if !slices.Equal(room, before) {
			t.Errorf("%q: an argument was changed", list)
		}
	}
	for _, seq := range append(invalidSequences(), steps("a=b", "b~a", "t=1"), steps()) {
		room := append(slices.Clone(seq), steps("C=9", "B~t")...)
		before := slices.Clone(room)
		impl.SwapCost(room[:len(seq)], 3)
		if !slices.Equal(room, before) {
			t.Errorf("%v: an argument was changed", seq)
		}
	}
}
