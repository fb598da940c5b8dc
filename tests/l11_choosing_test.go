package tests

import (
	"math/rand"
	"slices"
	"strings"
	"testing"

	"loop.example/parallelmoves/impl"
)

// notSizes are numbers of registers that no parameters have.
var notSizes = append([]int{0, 5, 6, 7, 9, 10, 60}, notPowers...)

// closesRing reports whether a parameter is the first one, in the order of the alphabet, of a closed ring.
func (c callModel) closesRing(param string) bool {
	ring, name := param, c.source(param)
	for strings.Contains(c.params, name) && !strings.Contains(ring, name) {
		ring += name
		name = c.source(name)
	}
	if name != param || ring == param {
		return false
	}
	for _, p := range strings.Split(ring, "") {
		if p < param || strings.Count(c.args, p) > 1 {
			return false
		}
	}
	return true
}

// cost counts the arguments that are not their parameters, and the closed rings.
func (c callModel) cost() int {
	n := 0
	for _, p := range strings.Split(c.params, "") {
		if c.source(p) != p {
			n++
		}
		if c.closesRing(p) {
			n++
		}
	}
	return n
}

// choiceModel does what the document says of all parameters of n registers.
type choiceModel struct {
	n     int
	calls []string
}

// parametersOf returns all parameters of n registers.
func parametersOf(n int) []string {
	return slices.DeleteFunc(allParameters(), func(params string) bool { return len(params) != n })
}

func totalOf(params string, calls []string) int {
	sum := 0
	for _, args := range calls {
		sum += callModel{params, args}.cost()
	}
	return sum
}

func (c choiceModel) totals() map[string]int {
	totals := map[string]int{}
	for _, params := range parametersOf(c.n) {
		totals[params] = totalOf(params, c.calls)
	}
	return totals
}

func leastOf(totals map[string]int) int {
	least := 1000
	for _, cost := range totals {
		least = min(least, cost)
	}
	return least
}

// bestOf returns all parameters with the least cost, in the order of the alphabet.
func bestOf(totals map[string]int) []string {
	best := []string{}
	for params, cost := range totals {
		if cost == leastOf(totals) {
			best = append(best, params)
		}
	}
	slices.Sort(best)
	return best
}

func (c choiceModel) greedy() string {
	taken := ""
	for i := range c.n {
		most, elected := -1, ""
		for _, p := range strings.Split(registerLetters, "") {
			votes := 0
			for _, args := range c.calls {
				if args[i:i+1] == p {
					votes++
				}
			}
			if votes > most && !strings.Contains(taken, p) {
				most, elected = votes, p
			}
		}
		taken += elected
	}
	return taken
}

// checkChoice checks all functions of chapter 11 for calls that are valid, against the model.
func checkChoice(t *testing.T, n int, calls []string) {
	t.Helper()
	want := choiceModel{n, calls}
	totals := want.totals()
	least, best := leastOf(totals), bestOf(totals)
	if !impl.CallsValid(n, calls) {
		t.Errorf("CallsValid(%d, %q) = false", n, calls)
	}
	for params, cost := range totals {
		if got := impl.TotalCost(params, calls); got != cost {
			t.Errorf("TotalCost(%q, %q) = %d, not %d", params, calls, got, cost)
		}
	}
	if got := impl.LeastCost(n, calls); got != least {
		t.Errorf("LeastCost(%d, %q) = %d, not %d", n, calls, got, least)
	}
	if got, ok := impl.BestParams(n, calls); got != best[0] || !ok {
		t.Errorf("BestParams(%d, %q) = %q, %v, not %q", n, calls, got, ok, best[0])
	}
	if got := impl.CountBest(n, calls); got != len(best) {
		t.Errorf("CountBest(%d, %q) = %d, not %d", n, calls, got, len(best))
	}
	greedy := want.greedy()
	if got, ok := impl.GreedyParams(n, calls); got != greedy || !ok {
		t.Errorf("GreedyParams(%d, %q) = %q, %v, not %q", n, calls, got, ok, greedy)
	}
	for _, params := range []string{best[0], best[len(best)-1], greedy, "abcd"[:n], "fedc"[:n], "bdfa"[:n]} {
		if got := impl.IsBest(params, calls); got != (totals[params] == least) {
			t.Errorf("IsBest(%q, %q) = %v, with %d steps, but %d are enough", params, calls, got, totals[params], least)
		}
	}
}

// stepsFor returns how many steps OrderMoves has for calls, and -1 if they don't do what the calls do.
func stepsFor(params string, calls []string) int {
	n := 0
	for _, args := range calls {
		list, valid := impl.MovesFor(params, args)
		seq, ok := impl.OrderMoves(list)
		if !valid || !ok || !does(seq, list) {
			return -1
		}
		n += len(seq)
	}
	return n
}

// checkNoOthersNeedFewer checks promise 11 without the model, by the steps that calls take with all parameters.
func checkNoOthersNeedFewer(t *testing.T, n int, calls []string) {
	t.Helper()
	best, _ := impl.BestParams(n, calls)
	least, count := impl.LeastCost(n, calls), 0
	if got := stepsFor(best, calls); got != least {
		t.Errorf("BestParams(%d, %q) = %q, which takes %d steps, but LeastCost = %d", n, calls, best, got, least)
	}
	for _, params := range parametersOf(n) {
		steps := stepsFor(params, calls)
		if steps < least || steps == least && params < best {
			t.Errorf("BestParams(%d, %q) = %q with %d steps, but %q takes %d", n, calls, best, least, params, steps)
		}
		if steps == least {
			count++
		}
	}
	if got := impl.CountBest(n, calls); got != count {
		t.Errorf("CountBest(%d, %q) = %d, but %d parameters take %d steps", n, calls, got, count, least)
	}
	if greedy, _ := impl.GreedyParams(n, calls); stepsFor(greedy, calls) < least {
		t.Errorf("GreedyParams(%d, %q) = %q takes fewer than %d steps", n, calls, greedy, least)
	}
}

// checkChoiceRefused checks all functions of chapter 11, if a number of registers or calls are not valid.
func checkChoiceRefused(t *testing.T, n int, calls []string) {
	t.Helper()
	if impl.CallsValid(n, calls) {
		t.Errorf("CallsValid(%d, %q) = true", n, calls)
	}
	if least, count := impl.LeastCost(n, calls), impl.CountBest(n, calls); least != -1 || count != -1 {
		t.Errorf("%d, %q: LeastCost = %d, CountBest = %d", n, calls, least, count)
	}
	if got, ok := impl.BestParams(n, calls); got != "" || ok {
		t.Errorf("BestParams(%d, %q) = %q, %v", n, calls, got, ok)
	}
	if got, ok := impl.GreedyParams(n, calls); got != "" || ok {
		t.Errorf("GreedyParams(%d, %q) = %q, %v", n, calls, got, ok)
	}
	if 0 <= n && n <= len(registerLetters) {
		for _, params := range []string{"abcdef"[:n], "fedcba"[:n], "cafebd"[:n]} {
			checkParamsRefused(t, params, calls)
		}
	}
}

func checkParamsRefused(t *testing.T, params string, calls []string) {
	t.Helper()
	if got := impl.TotalCost(params, calls); got != -1 {
		t.Errorf("TotalCost(%q, %q) = %d", params, calls, got)
	}
	if impl.IsBest(params, calls) {
		t.Errorf("IsBest(%q, %q) = true", params, calls)
	}
}

// callsOf splits a text of calls with single spaces between them; the empty text has none.
func callsOf(text string) []string { return strings.Fields(text) }

// randomCalls takes few registers, so that parameters fit more than one call, and calls that are alike.
func randomCalls(r *rand.Rand, n int, most int) []string {
	letters := registerLetters[r.Intn(3):][:2+r.Intn(3)] + "A1"[:r.Intn(3)]
	calls := []string{}
	for range r.Intn(most + 1) {
		args := ""
		for range n {
			args += randomLetter(r, letters)
		}
		if len(calls) > 0 && r.Intn(4) == 0 {
			args = calls[r.Intn(len(calls))]
		}
		calls = append(calls, args)
	}
	return calls
}

func TestConstantsOfChoices(t *testing.T) {
	if impl.MaxCalls != 5 {
		t.Errorf("MaxCalls = %d", impl.MaxCalls)
	}
}

func TestChoiceOfTheDocument(t *testing.T) {
	calls := []string{"ba", "b1"}
	if got, ok := impl.BestParams(2, calls); got != "ba" || !ok {
		t.Errorf("BestParams = %q, %v", got, ok)
	}
	if got := impl.LeastCost(2, calls); got != 1 {
		t.Errorf("LeastCost = %d", got)
	}
	checkChoice(t, 2, calls)
}

func TestChoices(t *testing.T) {
	tests := []struct {
		n      int
		calls  string
		best   string
		least  int
		count  int
		greedy string
		cost   int // of the greedy parameters
	}{
		// One parameter.
		{1, "a", "a", 0, 1, "a", 0},
		{1, "f", "f", 0, 1, "f", 0},
		{1, "1", "a", 1, 6, "a", 1},
		{1, "C", "a", 1, 6, "a", 1},
		{1, "c c d", "c", 1, 1, "c", 1},
		{1, "d c", "c", 1, 2, "c", 1},
		{1, "f e 0", "e", 2, 2, "e", 2},
		{1, "e 1 e C b", "e", 3, 1, "e", 3},
		{1, "7 7 7 7 7", "a", 5, 6, "a", 5},
		{1, "f e d c b", "b", 4, 5, "b", 4},
		// Calls that are alike, with parameters in alphabetical and in another order.
		{2, "ab", "ab", 0, 1, "ab", 0},
		{2, "ba", "ba", 0, 1, "ba", 0},
		{2, "ba ba", "ba", 0, 1, "ba", 0},
		{2, "fe fe fe fe fe", "fe", 0, 1, "fe", 0},
		{3, "cab", "cab", 0, 1, "cab", 0},
		{3, "bca bca bca bca bca", "bca", 0, 1, "bca", 0},
		{4, "abcd", "abcd", 0, 1, "abcd", 0},
		{4, "badc badc", "badc", 0, 1, "badc", 0},
		{4, "fedc fedc 1234 ABCA 0000", "fedc", 12, 1, "fedc", 12},
		// Arguments that are no registers cost with all parameters.
		{2, "12 AB", "ab", 4, 30, "ab", 4},
		{3, "1A2", "abc", 3, 120, "abc", 3},
		{4, "1234", "abcd", 4, 360, "abcd", 4},
		{4, "fe2A ABC1", "feab", 6, 12, "feab", 6},
		// An index at which no call has a register.
		{2, "d1", "da", 1, 5, "da", 1},
		{2, "1d", "ad", 1, 5, "ad", 1},
		{2, "a1 aC", "ab", 2, 5, "ab", 2},
		{2, "1a", "ba", 1, 5, "ab", 2},
		{3, "a1b", "acb", 1, 4, "abc", 2},
		{4, "1abc 2abc 3abc 4abc 5abc", "dabc", 5, 3, "abcd", 20},
		// A register that most calls have at two indexes, or at all of them.
		{2, "aa", "ab", 1, 10, "ab", 1},
		{2, "aa aa ab", "ab", 2, 1, "ab", 2},
		{2, "cc cc cc", "ac", 3, 10, "ca", 3},
		{2, "cc cc cd", "cd", 2, 1, "cd", 2},
		{2, "a1 aa ca", "ca", 3, 1, "ab", 4},
		{4, "aaaa", "abcd", 3, 240, "abcd", 3},
		{4, "bbbb aaaa", "abcd", 6, 144, "abcd", 6},
		// Rings that need one step more.
		{2, "ab ba", "ab", 3, 18, "ab", 3},
		{2, "ab ab ba", "ab", 3, 1, "ab", 3},
		{3, "bac abc", "abc", 3, 14, "abc", 3},
		{3, "abc abc bca", "abc", 4, 1, "abc", 4},
		// Greedy parameters that are not the best.
		{2, "ba b1", "ba", 1, 1, "ba", 1},
		{2, "ca cb 1a", "ca", 2, 1, "ca", 2},
		{2, "aa ba", "ba", 1, 1, "ab", 4},
		{2, "ab ba ba a1 a2", "ac", 7, 5, "ab", 8},
	}
	for _, test := range tests {
		calls := callsOf(test.calls)
		if got, ok := impl.BestParams(test.n, calls); got != test.best || !ok {
			t.Errorf("BestParams(%d, %q) = %q, %v", test.n, calls, got, ok)
		}
		if got := impl.LeastCost(test.n, calls); got != test.least {
			t.Errorf("LeastCost(%d, %q) = %d", test.n, calls, got)
		}
		if got := impl.CountBest(test.n, calls); got != test.count {
			t.Errorf("CountBest(%d, %q) = %d", test.n, calls, got)
		}
		if got, ok := impl.GreedyParams(test.n, calls); got != test.greedy || !ok {
			t.Errorf("GreedyParams(%d, %q) = %q, %v", test.n, calls, got, ok)
		}
		if got := impl.TotalCost(test.greedy, calls); got != test.cost {
			t.Errorf("TotalCost(%q, %q) = %d", test.greedy, calls, got)
		}
		if !impl.IsBest(test.best, calls) || impl.IsBest(test.greedy, calls) != (test.cost == test.least) {
			t.Errorf("%q: IsBest(%q) = %v, IsBest(%q) = %v", calls, test.best, impl.IsBest(test.best, calls), test.greedy, impl.IsBest(test.greedy, calls))
		}
		checkChoice(t, test.n, calls)
		checkNoOthersNeedFewer(t, test.n, calls)
	}
}

func TestTotalCost(t *testing.T) {
	tests := []struct {
		calls string
		costs map[string]int
	}{
		{"a", map[string]int{"a": 0, "b": 1, "f": 1}},
		{"1 C a a f", map[string]int{"a": 3, "b": 5, "f": 4}},
		{"ba b1", map[string]int{"ba": 1, "ab": 5, "cd": 4, "bc": 2, "ca": 3, "ac": 4}},
		// The ring of two places needs one step more, unless somebody reads it.
		{"ba", map[string]int{"ba": 0, "ab": 3, "ac": 2, "ca": 1, "bc": 1, "cb": 2, "cd": 2}},
		{"baa", map[string]int{"abc": 3, "bac": 1, "bca": 1, "acb": 3, "cab": 2, "def": 3}},
		{"bca", map[string]int{"abc": 4, "bca": 0, "cab": 4, "acb": 3, "cba": 3, "bac": 3, "def": 3, "abd": 3}},
		{"badc", map[string]int{"abcd": 6, "badc": 0, "bacd": 3, "abdc": 3, "dcba": 6, "cdab": 6, "bdac": 3}},
		{"badc badc badc badc badc", map[string]int{"abcd": 30, "badc": 0, "bacd": 15, "abdc": 15}},
		{"abcd badc dcba 1111 AfAf", map[string]int{"abcd": 20, "badc": 20, "fabc": 18}},
	}
	for _, test := range tests {
		for params, want := range test.costs {
			if got := impl.TotalCost(params, callsOf(test.calls)); got != want {
				t.Errorf("TotalCost(%q, %q) = %d, not %d", params, test.calls, got, want)
			}
		}
	}
}

// TestCostOfTheModel compares the cost that the model of this chapter counts with the steps of the model of chapter 5.
func TestCostOfTheModel(t *testing.T) {
	r := rand.New(rand.NewSource(71))
	for range 5000 {
		params := randomParameters(r)
		call := callModel{params, randomArguments(r, params)}
		if steps := call.moves().stepsInOrder(); call.cost() != len(steps) {
			t.Errorf("%v: cost %d, but %d steps", call, call.cost(), len(steps))
		}
	}
}

func TestNoCalls(t *testing.T) {
	for _, calls := range [][]string{nil, {}, make([]string, 0, 9)} {
		for n, count := range map[int]int{1: 6, 2: 30, 3: 120, 4: 360} {
			first := "abcd"[:n]
			best, ok := impl.BestParams(n, calls)
			greedy, greedyOk := impl.GreedyParams(n, calls)
			if best != first || greedy != first || !ok || !greedyOk {
				t.Errorf("BestParams(%d) = %q, %v, GreedyParams = %q, %v", n, best, ok, greedy, greedyOk)
			}
			if impl.LeastCost(n, calls) != 0 || impl.CountBest(n, calls) != count || !impl.CallsValid(n, calls) {
				t.Errorf("%d: LeastCost = %d, CountBest = %d, CallsValid = %v", n, impl.LeastCost(n, calls), impl.CountBest(n, calls), impl.CallsValid(n, calls))
			}
		}
		for _, params := range allParameters() {
			if impl.TotalCost(params, calls) != 0 || !impl.IsBest(params, calls) {
				t.Errorf("TotalCost(%q) = %d, IsBest = %v", params, impl.TotalCost(params, calls), impl.IsBest(params, calls))
			}
		}
		for _, params := range notParameters {
			checkParamsRefused(t, params, calls)
		}
		for _, n := range notSizes {
			checkChoiceRefused(t, n, calls)
		}
	}
}

// TestIsBest asks for all parameters.
func TestIsBest(t *testing.T) {
	for _, test := range []choiceModel{
		{1, callsOf("f e 0")},
		{2, callsOf("ab ba")},
		{2, callsOf("ab ba ba a1 a2")},
		{3, callsOf("bac abc")},
		{3, callsOf("a1b")},
		{4, callsOf("fe2A ABC1")},
	} {
		best := bestOf(test.totals())
		for _, params := range allParameters() {
			if got := impl.IsBest(params, test.calls); got != slices.Contains(best, params) {
				t.Errorf("IsBest(%q, %q) = %v", params, test.calls, got)
			}
		}
	}
}

func TestAllSingleCalls(t *testing.T) {
	for n, letters := range map[int]string{1: sourceLetters, 2: sourceLetters, 3: "abfA1", 4: "ac1"} {
		for _, args := range allArguments(n, letters) {
			checkChoice(t, n, []string{args})
		}
	}
}

func TestAllPairsOfCalls(t *testing.T) {
	for n, letters := range map[int]string{1: sourceLetters, 2: "abfA", 3: "bc"} {
		for _, first := range allArguments(n, letters) {
			for _, second := range allArguments(n, letters) {
				checkChoice(t, n, []string{first, second})
			}
		}
	}
}

func TestChoicesAgainstTheModel(t *testing.T) {
	r := rand.New(rand.NewSource(72))
	others, ties := 0, 0
	for range 600 {
		n := 1 + r.Intn(4)
		calls := randomCalls(r, n, 5)
		checkChoice(t, n, calls)
		if greedy, _ := impl.GreedyParams(n, calls); !impl.IsBest(greedy, calls) {
			others++
		}
		if count := impl.CountBest(n, calls); count > 1 {
			ties++
		}
		if t.Failed() {
			return
		}
	}
	if others < 60 || ties < 60 {
		t.Errorf("%d with greedy parameters that are not the best, and %d with several best ones", others, ties)
	}
}

func TestNoOtherParametersNeedFewerSteps(t *testing.T) {
	r := rand.New(rand.NewSource(73))
	for range 60 {
		n := 1 + r.Intn(4)
		checkNoOthersNeedFewer(t, n, randomCalls(r, n, 5))
	}
}

// TestNoFewerStepsOfCallsByTheSearch adds up what chapter 6 searches for, for moves of at most four places.
func TestNoFewerStepsOfCallsByTheSearch(t *testing.T) {
	for _, text := range []string{"ba b1", "ab ba", "aa ba", "1a", "ab ba ba a1 a2", "AB 12 fe"} {
		calls, least := callsOf(text), 1000
		for _, params := range parametersOf(2) {
			steps := 0
			for _, args := range calls {
				list, _ := impl.MovesFor(params, args)
				steps += impl.FewestSteps(list)
			}
			if got := impl.TotalCost(params, calls); got != steps {
				t.Errorf("TotalCost(%q, %q) = %d, but FewestSteps are %d", params, calls, got, steps)
			}
			least = min(least, steps)
		}
		if got := impl.LeastCost(2, calls); got != least {
			t.Errorf("LeastCost(2, %q) = %d, but FewestSteps are %d", calls, got, least)
		}
	}
}

// TestCallsInAnotherOrder checks that neither the order of calls nor, for costs, that of their arguments matters.
func TestCallsInAnotherOrder(t *testing.T) {
	r := rand.New(rand.NewSource(74))
	for range 100 {
		n := 1 + r.Intn(4)
		calls := randomCalls(r, n, 5)
		best, _ := impl.BestParams(n, calls)
		greedy, _ := impl.GreedyParams(n, calls)
		shuffled := slices.Clone(calls)
		r.Shuffle(len(shuffled), func(i int, j int) { shuffled[i], shuffled[j] = shuffled[j], shuffled[i] })
		if got, _ := impl.BestParams(n, shuffled); got != best {
			t.Errorf("BestParams(%d, %q) = %q, not %q", n, shuffled, got, best)
		}
		if got, _ := impl.GreedyParams(n, shuffled); got != greedy {
			t.Errorf("GreedyParams(%d, %q) = %q, not %q", n, shuffled, got, greedy)
		}
		turned := func(args string) string { return args[1:] + args[:1] }
		for i, args := range shuffled {
			shuffled[i] = turned(args)
		}
		if got := impl.TotalCost(turned(greedy), shuffled); got != impl.TotalCost(greedy, calls) {
			t.Errorf("TotalCost(%q, %q) = %d, but %d for %q", turned(greedy), shuffled, got, impl.TotalCost(greedy, calls), calls)
		}
		if impl.LeastCost(n, shuffled) != impl.LeastCost(n, calls) || impl.CountBest(n, shuffled) != impl.CountBest(n, calls) {
			t.Errorf("LeastCost or CountBest of %q and of %q", shuffled, calls)
		}
	}
}

func TestNumbersOfRegistersThatAreNone(t *testing.T) {
	for _, n := range notSizes {
		for _, text := range []string{"", "a", "1", "ba b1", "abc", "abcd", "abcd 1234", "abcde", "abcde 12345", "fedcba", "abcdefABC"} {
			checkChoiceRefused(t, n, callsOf(text))
		}
		checkChoiceRefused(t, n, []string{""})
		checkChoiceRefused(t, n, []string{"", ""})
	}
}

func TestMoreCallsThanFive(t *testing.T) {
	for _, args := range []string{"a", "1", "ba", "b1", "bca", "A12", "abcd", "fe0C"} {
		for count := range 6 {
			if !impl.CallsValid(len(args), slices.Repeat([]string{args}, count)) {
				t.Errorf("CallsValid of %d calls %q = false", count, args)
			}
		}
		checkChoice(t, len(args), slices.Repeat([]string{args}, 5))
		for _, count := range []int{6, 7, 10, 100, 1000} {
			checkChoiceRefused(t, len(args), slices.Repeat([]string{args}, count))
		}
	}
	checkChoiceRefused(t, 1, callsOf("a b c d e f"))
	checkChoiceRefused(t, 2, callsOf("ab cd ef AB 12 ab"))
}

// checkOneOfCallsRefused puts a text among calls that are valid, at each index of them.
func checkOneOfCallsRefused(t *testing.T, n int, args string) {
	t.Helper()
	for _, others := range [][]string{nil, {"abcd"[:n]}, {"1A2B"[:n], "fecd"[:n]}, {"aaaa"[:n], "bbbb"[:n], "1111"[:n], "AbAb"[:n]}} {
		for i := range len(others) + 1 {
			checkChoiceRefused(t, n, slices.Insert(slices.Clone(others), i, args))
		}
	}
}

func TestCallsOfOtherLengths(t *testing.T) {
	for n := 1; n <= 4; n++ {
		for length := range 8 {
			if length != n {
				for _, args := range []string{strings.Repeat("a", length), strings.Repeat("7", length), "fA1bcd0"[:length]} {
					checkOneOfCallsRefused(t, n, args)
				}
			}
		}
		checkOneOfCallsRefused(t, n, strings.Repeat("a", 1000))
		checkOneOfCallsRefused(t, n, "abcd"[:n]+"\n")
	}
}

func TestCallsOfTextsThatAreNoArguments(t *testing.T) {
	for n := 1; n <= 4; n++ {
		args := "b1aC"[:n]
		for i := range n {
			for one := range 256 {
				if arg := string([]byte{byte(one)}); !oneOf(sourceLetters, arg) {
					checkOneOfCallsRefused(t, n, args[:i]+arg+args[i+1:])
				}
			}
		}
		for _, args := range []string{"t", "u", "tu", "at", "ub", "abt", "tab", "abct", "uabc", "é", "éé", "aé", "éa", "€", "a€", "€a", "٣", "ａ", "𝟏", " ", "a ", " a", "a b", "-", "\x00", "a\x00", "\xff"} {
			checkOneOfCallsRefused(t, n, args)
		}
	}
}

func TestCostOfTextsThatAreNoParameters(t *testing.T) {
	for _, params := range notParameters {
		// Calls with as many arguments, and others, that would be valid with other parameters.
		n := len(params)
		for _, calls := range [][]string{nil, {""}, {strings.Repeat("a", n)}, {strings.Repeat("7", n), strings.Repeat("B", n)}, {params}, {"a", "1"}, {"ba", "b1"}, {"bca"}, {"abcd", "1234"}} {
			checkParamsRefused(t, params, calls)
		}
	}
}

func TestParametersThatDoNotFitTheCalls(t *testing.T) {
	for _, params := range allParameters() {
		for n, text := range map[int]string{1: "a 1 C", 2: "ba b1", 3: "bca 1A2 fed", 4: "abcd 1234 AABB fedc badc"} {
			if calls := callsOf(text); n != len(params) {
				checkParamsRefused(t, params, calls)
			} else if got := impl.TotalCost(params, calls); got != totalOf(params, calls) {
				t.Errorf("TotalCost(%q, %q) = %d", params, calls, got)
			}
		}
		// One call of five that does not fit.
		fitting := strings.Repeat("a", len(params))
		checkParamsRefused(t, params, []string{fitting, fitting, fitting, fitting, fitting + "a"})
		checkParamsRefused(t, params, []string{fitting[1:], fitting, fitting, fitting, fitting})
		checkParamsRefused(t, params, slices.Repeat([]string{fitting}, 6))
	}
}

func TestChoicesShareNoMemory(t *testing.T) {
	for _, text := range []string{"", "a", "ba b1", "bca abc 1A2", "abcd 1234 fedc badc aaaa", "ab t1", "a b c d e f"} {
		calls := callsOf(text)
		room := append(slices.Clone(calls), "zz", "ba", "1")
		before, short := slices.Clone(room), room[:len(calls)]
		for n := range 6 {
			impl.CallsValid(n, short)
			impl.BestParams(n, short)
			impl.LeastCost(n, short)
			impl.GreedyParams(n, short)
			impl.CountBest(n, short)
			impl.TotalCost("cabde"[:n], short)
			impl.IsBest("cabde"[:n], short)
		}
		if !slices.Equal(room, before) {
			t.Errorf("%q: an argument was changed", calls)
		}
	}
}
