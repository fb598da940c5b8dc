package tests

import (
	"math"
	"math/rand"
	"slices"
	"strings"
	"sync"
	"testing"

	"loop.example/parallelmoves/impl"
)

// mostSteps is more than the shortest sequences have: two for each place, one for the spare place and one more.
const mostSteps = 10

// A searchModel tries all steps of the document, in its order, from a state on, until so many are done. It knows nothing
// of how many steps are needed. A state is a text of the values of cells.
type searchModel struct {
	cells string
	goal  string
	steps []impl.Step
	known map[searchedFrom]int
}

type searchedFrom struct {
	state string
	steps int
}

func (l model) search(spares string) *searchModel {
	places := l.places()
	m := &searchModel{cells: places + spares, known: map[searchedFrom]int{}}
	sources := m.cells
	for _, d := range strings.Split(digitLetters, "") {
		if l.readers(d) != "" {
			sources += d
		}
	}
	for _, p := range strings.Split(places, "") {
		m.goal += l.source(p)
	}
	for _, to := range strings.Split(m.cells, "") {
		for _, from := range strings.Split(sources, "") {
			m.steps = append(m.steps, take(to, from))
		}
	}
	return m
}

func (m *searchModel) behind(state string, step impl.Step) string {
	to, value := strings.Index(m.cells, step.To), step.From
	if from := strings.Index(m.cells, step.From); from >= 0 {
		value = state[from : from+1]
	}
	return state[:to] + value + state[to+1:]
}

// ways returns how many sequences of n steps, each of which changes the state, lead from a state to the goal.
func (m *searchModel) ways(state string, n int) int {
	if n == 0 && strings.HasPrefix(state, m.goal) {
		return 1
	}
	from := searchedFrom{state, n}
	sum, ok := m.known[from]
	if ok || n == 0 {
		return sum
	}
	for _, step := range m.steps {
		if next := m.behind(state, step); next != state {
			sum += m.ways(next, n-1)
		}
	}
	m.known[from] = sum
	return sum
}

func (m *searchModel) fewest() int {
	for n := range mostSteps + 1 {
		if m.ways(m.cells, n) > 0 {
			return n
		}
	}
	return -1
}

// first takes always the first step behind which the steps that are left are enough.
func (m *searchModel) first(n int) []impl.Step {
	seq, state := []impl.Step{}, m.cells
	for ; n > 0; n-- {
		i := slices.IndexFunc(m.steps, func(step impl.Step) bool {
			next := m.behind(state, step)
			return next != state && m.ways(next, n-1) > 0
		})
		seq = append(seq, m.steps[i])
		state = m.behind(state, m.steps[i])
	}
	return seq
}

// checkFewest checks the results of all functions of chapter 6 for moves against the model.
func checkFewest(t *testing.T, list []impl.Move) {
	t.Helper()
	text := model(list).format()
	spared, alone := model(list).search("t"), model(list).search("")
	n := spared.fewest()
	if got := impl.FewestSteps(list); got != n {
		t.Errorf("%s: FewestSteps = %d, not %d", text, got, n)
	}
	if got, ok := impl.FirstFewest(list); !slices.Equal(got, spared.first(n)) || !ok {
		t.Errorf("%s: FirstFewest = %s, %v, not %s", text, stepModel(got).format(), ok, stepModel(spared.first(n)).format())
	}
	if got, want := impl.FewestAlone(list), alone.fewest(); got != want {
		t.Errorf("%s: FewestAlone = %d, not %d", text, got, want)
	}
	if got, want := impl.CountFewest(list), min(spared.ways(spared.cells, n), impl.MaxWays); got != want {
		t.Errorf("%s: CountFewest = %d, not %d", text, got, want)
	}
	checkCanInSteps(t, list, n)
}

// checkCanInSteps checks for all kinds of numbers that n steps are enough, and no fewer.
func checkCanInSteps(t *testing.T, list []impl.Move, n int) {
	t.Helper()
	for steps := -2; steps < 70; steps++ {
		if got := impl.CanInSteps(list, steps); got != (steps >= n) {
			t.Errorf("%q: CanInSteps(%d) = %v, but %d are the least", list, steps, got, n)
		}
	}
	for _, steps := range []int{math.MinInt, math.MinInt + n, math.MinInt32, -1 << 32, -60} {
		if impl.CanInSteps(list, steps) {
			t.Errorf("%q: CanInSteps(%d) = true", list, steps)
		}
	}
	for _, steps := range []int{100, math.MaxInt32, 1 << 32, math.MaxInt - 1, math.MaxInt} {
		if !impl.CanInSteps(list, steps) {
			t.Errorf("%q: CanInSteps(%d) = false", list, steps)
		}
	}
}

// checkMovesAndRings checks promise 6 without a search: no fewer steps are enough than one for each move that is not idle and
// one more for each closed ring. Without the spare place as many are, unless no place gets lost that could be one.
func checkMovesAndRings(t *testing.T, list []impl.Move) {
	t.Helper()
	want := model(list)
	n := len(want.busy()) + len(want.closed())
	if got := impl.FewestSteps(list); got != n || impl.CountInOrder(list) != n {
		t.Errorf("%q: FewestSteps = %d, CountInOrder = %d, not %d", list, got, impl.CountInOrder(list), n)
	}
	if impl.CanInSteps(list, n-1) || !impl.CanInSteps(list, n) {
		t.Errorf("%q: CanInSteps(%d) = %v, CanInSteps(%d) = %v", list, n-1, impl.CanInSteps(list, n-1), n, impl.CanInSteps(list, n))
	}
	first, ok := impl.FirstFewest(list)
	if !ok || len(first) != n || !does(first, list) || !impl.IsRight(first, list) {
		t.Errorf("%q: FirstFewest = %v, %v", list, first, ok)
	}
	if n > 0 && want.lost() == "" {
		n = -1
	}
	if got := impl.FewestAlone(list); got != n {
		t.Errorf("%q: FewestAlone = %d, not %d", list, got, n)
	}
}

// checkFewestRefused checks the results of all functions of chapter 6 for a list that they are not about.
func checkFewestRefused(t *testing.T, list []impl.Move) {
	t.Helper()
	if steps, alone, count := impl.FewestSteps(list), impl.FewestAlone(list), impl.CountFewest(list); steps != -1 || alone != -1 || count != -1 {
		t.Errorf("%q: FewestSteps = %d, FewestAlone = %d, CountFewest = %d", list, steps, alone, count)
	}
	if got, ok := impl.FirstFewest(list); len(got) != 0 || ok {
		t.Errorf("%q: FirstFewest = %v, %v", list, got, ok)
	}
	for _, n := range []int{math.MinInt, -2, -1, 0, 1, 2, 3, 9, 60, 61, math.MaxInt} {
		if impl.CanInSteps(list, n) {
			t.Errorf("%q: CanInSteps(%d) = true", list, n)
		}
	}
}

func TestConstantsOfSearches(t *testing.T) {
	if impl.MaxSearched != 4 || impl.MaxWays != 100000 {
		t.Errorf("MaxSearched = %d, MaxWays = %d", impl.MaxSearched, impl.MaxWays)
	}
}

func TestFewestOfTheDocument(t *testing.T) {
	list := movesOf("a=b,b=a,c=c")
	if impl.FewestSteps(list) != 3 || impl.FewestAlone(list) != -1 {
		t.Errorf("FewestSteps = %d, FewestAlone = %d", impl.FewestSteps(list), impl.FewestAlone(list))
	}
	list = movesOf("b=a,a=b,c=a")
	if impl.FewestSteps(list) != 3 || impl.FewestAlone(list) != 3 || impl.CountFewest(list) != 1 {
		t.Errorf("FewestSteps = %d, FewestAlone = %d, CountFewest = %d", impl.FewestSteps(list), impl.FewestAlone(list), impl.CountFewest(list))
	}
}

func TestFewestSteps(t *testing.T) {
	tests := []struct {
		list  string
		first string
		count int
		alone int
	}{
		// No moves, and idle ones alone.
		{"-", "-", 1, 0},
		{"a=a", "-", 1, 0},
		{"C=C,a=a,f=f,A=A", "-", 1, 0},
		// Idle ones among others.
		{"b=b,a=b", "a=b", 1, 1},
		{"c=c,a=b", "a=b", 1, 1},
		{"c=c,a=1", "a=1", 1, 1},
		{"b=a,c=c,a=b", "t=a;a=b;b=t", 2, -1},
		{"b=a,c=c,a=b,d=d", "t=a;a=b;b=t", 2, -1},
		// No ring.
		{"b=a", "b=a", 1, 1},
		{"a=b,b=c", "a=b;b=c", 1, 2},
		{"b=a,c=b", "c=b;b=a", 1, 2},
		{"b=a,c=b,d=c", "d=c;c=b;b=a", 1, 3},
		{"C=f,f=A,A=e", "C=f;f=A;A=e", 1, 3},
		{"a=b,c=d", "a=b;c=d", 2, 2},
		{"C=A,f=e", "f=e;C=A", 2, 2},
		// What several places get can be taken from each one that has it.
		{"a=b,c=b", "a=b;c=a", 4, 2},
		{"a=b,c=b,d=b", "a=b;c=a;d=a", 36, 3},
		{"b=c,a=c", "a=c;b=a", 4, 2},
		{"b=a,c=a,a=d", "b=a;a=d;c=b", 6, 3},
		// Digits.
		{"a=7", "a=7", 1, 1},
		{"a=9,b=0", "a=9;b=0", 2, 2},
		{"b=9,a=0", "a=0;b=9", 2, 2},
		{"a=1,b=a", "b=a;a=1", 1, 2},
		{"b=1,a=b", "a=b;b=1", 1, 2},
		{"a=1,b=2,c=3,d=4", "a=1;b=2;c=3;d=4", 24, 4},
		// Digits that several places get.
		{"a=1,b=1", "a=1;b=a", 4, 2},
		{"c=0,B=0", "c=0;B=c", 4, 2},
		{"a=1,b=1,c=1", "a=1;b=a;c=a", 36, 3},
		{"d=1,c=1,b=1,a=1", "a=1;b=a;c=a;d=a", 576, 4},
		{"a=1,b=1,c=2", "a=1;b=a;c=2", 12, 3},
		{"a=1,b=1,c=a", "b=1;c=a;a=b", 6, 3},
		// Closed rings.
		{"a=b,b=a", "t=a;a=b;b=t", 2, -1},
		{"C=f,f=C", "t=f;f=C;C=t", 2, -1},
		{"a=b,b=c,c=a", "t=a;a=b;b=c;c=t", 3, -1},
		{"a=c,c=b,b=a", "t=a;a=c;c=b;b=t", 3, -1},
		{"a=b,b=c,c=d,d=a", "t=a;a=b;b=c;c=d;d=t", 4, -1},
		// The place a, which is done, takes part in the other ring.
		{"a=b,b=a,c=d,d=c", "t=a;a=b;b=c;c=d;d=b;b=t", 24, -1},
		// Rings with an arm, whose place does for the spare one.
		{"a=b,b=a,c=a", "c=a;a=b;b=c", 1, 3},
		{"a=b,b=a,c=b", "c=b;b=a;a=c", 1, 3},
		{"a=b,b=a,c=a,d=a", "c=a;a=b;b=c;d=b", 16, 4},
		{"a=b,b=a,c=a,d=c", "d=c;c=a;a=b;b=c", 1, 4},
		{"a=b,b=c,c=a,d=b", "d=b;b=c;c=a;a=d", 1, 4},
		// A place that loses its value anyway keeps that of a ring for a while.
		{"a=b,b=a,c=c,d=c", "d=a;a=b;b=d;d=c", 10, 4},
		{"a=b,b=a,d=c", "d=a;a=b;b=d;d=c", 10, 4},
		{"a=b,b=a,c=7", "c=a;a=b;b=c;c=7", 10, 4},
		{"a=b,b=a,c=1,d=2", "c=a;a=b;b=c;c=1;d=2", 60, 5},
		{"a=b,b=a,c=1,d=1", "c=a;a=b;b=c;c=1;d=c", 120, 5},
		{"a=b,b=a,c=d,d=1", "c=a;a=b;b=c;c=d;d=1", 24, 5},
	}
	for _, test := range tests {
		list := movesOf(test.list)
		first, ok := impl.FirstFewest(list)
		if text := stepModel(first).format(); text != test.first || !ok {
			t.Errorf("%s: FirstFewest = %s, %v", test.list, text, ok)
		}
		if got := impl.CountFewest(list); got != test.count {
			t.Errorf("%s: CountFewest = %d", test.list, got)
		}
		if got := impl.FewestAlone(list); got != test.alone {
			t.Errorf("%s: FewestAlone = %d", test.list, got)
		}
		checkFewest(t, list)
		checkMovesAndRings(t, list)
	}
}

func TestMovesOfFourPlacesAndOfFive(t *testing.T) {
	for _, text := range []string{"a=b,c=d", "a=a,b=b,c=c,d=d", "a=1,b=2,c=3,d=4", "a=b,c=b,d=b", "a=b,b=c,c=d", "C=B,B=A,A=f", "a=b,b=a,c=c,C=C", "a=b,b=a,c=7,C=c", "f=f,A=A,a=f,C=7"} {
		checkFewest(t, movesOf(text))
		// One place more is one too many, whatever its move does, and wherever it stands.
		for _, more := range []string{"e=e", "e=a", "e=0", "e=C"} {
			checkFewestRefused(t, movesOf(text+","+more))
			checkFewestRefused(t, movesOf(more+","+text))
		}
	}
	for _, text := range []string{"a=b,c=d,e=f", "a=b,b=c,c=d,d=e", "a=e,b=e,c=e,d=e", "a=a,b=b,c=c,d=d,e=e", "a=1,b=1,c=1,d=1,e=1", "a=b,c=d,d=d,C=3", "a=b,b=c,c=d,d=e,e=a", "a=b,b=c,c=d,d=e,e=f,f=A,A=B,B=C,C=a", "a=0,b=1,c=2,d=3,e=4,f=5,A=6,B=7,C=8"} {
		checkFewestRefused(t, movesOf(text))
	}
}

func TestFewestOfAllMovesOfThreePlaces(t *testing.T) {
	for _, list := range allMovesOf("bfB", "bfB59") {
		checkFewest(t, list)
		checkMovesAndRings(t, list)
		if t.Failed() {
			return
		}
	}
}

// TestFewestOfAllMovesOfFourPlaces also shows that no moves have more shortest sequences than are counted:
// most have those that take the same digit to four places, in 24 orders and from 1, 2, 3 and 4 sources.
func TestFewestOfAllMovesOfFourPlaces(t *testing.T) {
	most := 0
	for _, list := range allMovesOf("adAC", "adAC08") {
		checkMovesAndRings(t, list)
		count := impl.CountFewest(list)
		if count < 1 || count > impl.MaxWays {
			t.Errorf("%q: CountFewest = %d", list, count)
		}
		most = max(most, count)
		if t.Failed() {
			return
		}
	}
	if most != 576 {
		t.Errorf("CountFewest is at most %d", most)
	}
}

// randomMovesOf returns moves to some places, each of which stays or gets one of them, or else a digit.
func randomMovesOf(r *rand.Rand, places string) []impl.Move {
	list := []impl.Move{}
	for _, i := range r.Perm(len(places)) {
		from := randomLetter(r, places)
		if r.Intn(6) == 0 {
			from = randomLetter(r, digitLetters)
		}
		if r.Intn(8) > 0 {
			list = append(list, impl.Move{To: places[i : i+1], From: from})
		}
	}
	return list
}

func TestFewestAgainstTheModel(t *testing.T) {
	checkFewest(t, nil)
	r := rand.New(rand.NewSource(21))
	for range 150 {
		places := ""
		for _, i := range r.Perm(len(placeLetters))[:4] {
			places += placeLetters[i : i+1]
		}
		checkFewest(t, randomMovesOf(r, places))
		if t.Failed() {
			return
		}
	}
}

func TestFewestOfRandomMoves(t *testing.T) {
	r := rand.New(rand.NewSource(22))
	for range 3000 {
		list := randomMoves(r)
		if len(model(list).places()) <= 4 {
			checkMovesAndRings(t, list)
		} else {
			checkFewestRefused(t, list)
		}
		if t.Failed() {
			return
		}
	}
}

// TestOrderOfMovesDoesNotMatter compares the results for moves in all orders.
func TestOrderOfMovesDoesNotMatter(t *testing.T) {
	for _, text := range []string{"a=b,b=a,c=a,d=a", "a=b,b=a,c=d,d=c", "a=2,b=1,c=2,d=1", "a=b,b=a,c=c,d=3", "C=a,a=f,f=f"} {
		sorted := movesOf(text)
		want, _ := impl.FirstFewest(sorted)
		for _, list := range ordersOf(sorted) {
			if got, ok := impl.FirstFewest(list); !slices.Equal(got, want) || !ok {
				t.Errorf("%q: FirstFewest = %v, %v, not %v", list, got, ok, want)
			}
			if impl.FewestSteps(list) != impl.FewestSteps(sorted) || impl.FewestAlone(list) != impl.FewestAlone(sorted) || impl.CountFewest(list) != impl.CountFewest(sorted) {
				t.Errorf("%q: FewestSteps = %d, FewestAlone = %d, CountFewest = %d", list, impl.FewestSteps(list), impl.FewestAlone(list), impl.CountFewest(list))
			}
		}
	}
}

func TestFewestOfListsThatAreNoMoves(t *testing.T) {
	for _, list := range invalidLists() {
		checkFewestRefused(t, list)
	}
	checkFewestRefused(t, slices.Repeat(moves("a", "b"), 1000))
}

func TestSearchesAtTheSameTime(t *testing.T) {
	var all sync.WaitGroup
	for _, text := range []string{"a=b,b=a", "a=b,b=a,c=d,d=c", "a=1,b=1,c=1,d=1", "a=b,b=a,c=1,d=2", "-"} {
		for range 4 {
			all.Go(func() { checkMovesAndRings(t, movesOf(text)) })
		}
	}
	all.Wait()
}

func TestFewestSharesNoMemory(t *testing.T) {
	lists := append(invalidLists(), movesOf("b=a,a=b"), movesOf("b=a,a=b,c=a"), movesOf("c=7,a=a,b=c"), movesOf("a=b,b=a,c=d,d=c"), movesOf("a=b,c=d,e=f"), movesOf("a=a"), movesOf("-"))
	for _, list := range lists {
		checkOwnMemory(t, list, map[string]func([]impl.Move) ([]impl.Step, bool){"FirstFewest": impl.FirstFewest})
		short, room := roomBehind(list)
		before := slices.Clone(room)
		impl.FewestSteps(short)
		impl.CanInSteps(short, 3)
		impl.FewestAlone(short)
		impl.CountFewest(short)
		if !slices.Equal(room, before) {
			t.Errorf("%q: an argument was changed", list)
		}
	}
}
