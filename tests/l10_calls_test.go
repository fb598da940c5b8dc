package tests

import (
	"math/rand"
	"slices"
	"strings"
	"testing"

	"loop.example/parallelmoves/impl"
)

// notParameters are texts that are no parameters.
var notParameters = []string{
	// None, and more than four.
	"", "abcde", "abcdef", "fedcb", "abcdefABC", "aaaaa", "abcda", strings.Repeat("a", 1000), strings.Repeat("abcdef", 100),
	// One twice.
	"aa", "ff", "aab", "aba", "baa", "abca", "abcb", "abcc", "abba", "aaaa",
	// Slots and spare places.
	"A", "B", "C", "aA", "Aa", "abcA", "Cabc", "aBcd", "ABC", "t", "u", "tu", "at", "ta", "aub", "abct", "uabc",
	// Digits and other bytes.
	"0", "9", "1a", "a1", "abc7", "a2cd", "g", "D", "T", "ag", "ga", "abcg", "-", "=", "a=b", "a,b", "a b", " ", " a", "a ", "\n", "a\n", "\x00", "a\x00", "\x00a", "\xff", "a\xff", "\xffa", "é", "aé", "éa", "éé", "٣",
}

// allParameters returns all texts that are parameters.
func allParameters() []string {
	texts, longer := []string{}, []string{""}
	for range 4 {
		shorter := longer
		longer = nil
		for _, text := range shorter {
			for _, p := range strings.Split(registerLetters, "") {
				if !strings.Contains(text, p) {
					longer = append(longer, text+p)
				}
			}
		}
		texts = append(texts, longer...)
	}
	return texts
}

// allArguments returns all texts of n of some letters.
func allArguments(n int, letters string) []string {
	texts := []string{""}
	for range n {
		shorter := texts
		texts = nil
		for _, text := range shorter {
			for _, arg := range strings.Split(letters, "") {
				texts = append(texts, text+arg)
			}
		}
	}
	return texts
}

func randomParameters(r *rand.Rand) string {
	params := ""
	for _, i := range r.Perm(len(registerLetters))[:1+r.Intn(4)] {
		params += registerLetters[i : i+1]
	}
	return params
}

// randomArguments takes parameters as arguments often, so that rings and steady parameters are frequent.
func randomArguments(r *rand.Rand, params string) string {
	args := ""
	for range params {
		if r.Intn(3) > 0 {
			args += randomLetter(r, params)
		} else {
			args += randomLetter(r, sourceLetters)
		}
	}
	return args
}

// callModel does what the document says of a call, letter by letter.
type callModel struct{ params, args string }

// source returns from where a place has its value behind the call; what is no parameter stays as it is, also a digit.
func (c callModel) source(name string) string {
	i := strings.Index(c.params, name)
	if i < 0 {
		return name
	}
	return c.args[i : i+1]
}

func (c callModel) moves() model {
	list := model{}
	for _, p := range strings.Split(c.params, "") {
		list = append(list, impl.Move{To: p, From: c.source(p)})
	}
	return list
}

func (c callModel) then(second string) string {
	args := ""
	for _, arg := range strings.Split(second, "") {
		args += c.source(arg)
	}
	return args
}

// loop goes back from each parameter through n calls.
func (c callModel) loop(n int) string {
	args := ""
	for _, name := range strings.Split(c.params, "") {
		for range n {
			name = c.source(name)
		}
		args += name
	}
	return args
}

func (c callModel) steady() string {
	text := ""
	for _, p := range strings.Split(c.params, "") {
		if c.source(p) == p {
			text += p
		}
	}
	return text
}

// argsOf returns the empty string if no call with the parameters does what the moves do.
func (l model) argsOf(params string) string {
	for _, m := range l.busy() {
		if !strings.Contains(params, m.To) {
			return ""
		}
	}
	args := ""
	for _, p := range strings.Split(params, "") {
		args += l.source(p)
	}
	return args
}

// checkCall checks the results of all functions of chapter 10 that take one call, for one that is valid, against the model.
func checkCall(t *testing.T, params string, args string) {
	t.Helper()
	want := callModel{params, args}
	if !impl.CallValid(params, args) {
		t.Errorf("CallValid(%q, %q) = false", params, args)
	}
	list, ok := impl.MovesFor(params, args)
	if !isMoves(list, ok, want.moves()) {
		t.Errorf("MovesFor(%q, %q) = %q, %v, not %q", params, args, list, ok, want.moves())
	}
	if got, steps := impl.CallCost(params, args), want.moves().stepsInOrder(); got != len(steps) {
		t.Errorf("CallCost(%q, %q) = %d, not %d", params, args, got, len(steps))
	}
	for _, n := range []int{0, 1, 2, 3, 4, 5, 6, 7, 12, 31, 58, 59, 60} {
		if got, ok := impl.LoopAfter(params, args, n); got != want.loop(n) || !ok {
			t.Errorf("LoopAfter(%q, %q, %d) = %q, %v, not %q", params, args, n, got, ok, want.loop(n))
		}
	}
	if got := impl.IsSteady(params, args); got != (want.steady() == params) {
		t.Errorf("IsSteady(%q, %q) = %v", params, args, got)
	}
	if got, ok := impl.SteadyParams(params, args); got != want.steady() || !ok {
		t.Errorf("SteadyParams(%q, %q) = %q, %v, not %q", params, args, got, ok, want.steady())
	}
	if got, ok := impl.ArgsOf(params, list); got != args || !ok {
		t.Errorf("ArgsOf(%q, %q) = %q, %v, not %q", params, list, got, ok, args)
	}
}

// checkCallAfter checks CallAfter for calls that are valid against the model.
func checkCallAfter(t *testing.T, params string, first string, second string) {
	t.Helper()
	want := callModel{params, first}.then(second)
	if got, ok := impl.CallAfter(params, first, second); got != want || !ok {
		t.Errorf("CallAfter(%q, %q, %q) = %q, %v, not %q", params, first, second, got, ok, want)
	}
}

// called returns a state behind a call, and the empty string if the call is none.
func called(params string, args string, state string) string {
	list, ok := impl.MovesFor(params, args)
	if !ok {
		return ""
	}
	return behind(list, state)
}

// checkCallStates checks promise 10 without the model: the one call does to a state what the calls do one behind the other.
func checkCallStates(t *testing.T, params string, first string, second string, n int) {
	t.Helper()
	both, _ := impl.CallAfter(params, first, second)
	want := called(params, second, called(params, first, cellLetters))
	if got := called(params, both, cellLetters); got != want || want == "" {
		t.Errorf("CallAfter(%q, %q, %q) = %q, which does %q, not %q", params, first, second, both, got, want)
	}
	loops, _ := impl.LoopAfter(params, first, n)
	want = cellLetters
	for range n {
		want = called(params, first, want)
	}
	if got := called(params, loops, cellLetters); got != want || want == "" {
		t.Errorf("LoopAfter(%q, %q, %d) = %q, which does %q, not %q", params, first, n, loops, got, want)
	}
}

// checkCallMoves checks that calls fit the functions of the chapters of moves.
func checkCallMoves(t *testing.T, params string, first string, second string, n int) {
	t.Helper()
	one, _ := impl.MovesFor(params, first)
	two, _ := impl.MovesFor(params, second)
	composed, _ := impl.ComposeMoves(one, two)
	both, _ := impl.CallAfter(params, first, second)
	if got, ok := impl.ArgsOf(params, composed); got != both || !ok {
		t.Errorf("CallAfter(%q, %q, %q) = %q, but ComposeMoves = %q, of which ArgsOf = %q, %v", params, first, second, both, composed, got, ok)
	}
	often, _ := impl.PowerOf(one, n)
	loops, _ := impl.LoopAfter(params, first, n)
	if got, ok := impl.ArgsOf(params, often); got != loops || !ok {
		t.Errorf("LoopAfter(%q, %q, %d) = %q, but PowerOf = %q, of which ArgsOf = %q, %v", params, first, n, loops, often, got, ok)
	}
	if seq, ok := impl.OrderMoves(one); len(seq) != impl.CallCost(params, first) || !ok || !does(seq, one) {
		t.Errorf("CallCost(%q, %q) = %d, but OrderMoves = %v, %v", params, first, impl.CallCost(params, first), seq, ok)
	}
}

// checkCalls checks all that is said of two calls and of the first one of them alone.
func checkCalls(t *testing.T, params string, first string, second string, n int) {
	t.Helper()
	checkCall(t, params, first)
	checkCallAfter(t, params, first, second)
	checkCallStates(t, params, first, second, n)
	checkCallMoves(t, params, first, second, n)
}

// checkArgsOf checks ArgsOf for parameters and moves that are valid, against the model and by what the call does.
func checkArgsOf(t *testing.T, params string, list []impl.Move) {
	t.Helper()
	want := model(list).argsOf(params)
	got, ok := impl.ArgsOf(params, list)
	if got != want || ok != (want != "") {
		t.Errorf("ArgsOf(%q, %q) = %q, %v, not %q", params, list, got, ok, want)
	}
	if made, _ := impl.MovesFor(params, got); ok && !impl.SameMoves(made, list) {
		t.Errorf("ArgsOf(%q, %q) = %q, but that call does %q", params, list, got, made)
	}
}

// checkCallRefused checks the results of all functions of chapter 10 that take calls, if parameters or arguments are not valid.
func checkCallRefused(t *testing.T, params string, args string) {
	t.Helper()
	if impl.CallValid(params, args) || impl.IsSteady(params, args) || impl.CallCost(params, args) != -1 {
		t.Errorf("%q, %q: CallValid = %v, IsSteady = %v, CallCost = %d", params, args, impl.CallValid(params, args), impl.IsSteady(params, args), impl.CallCost(params, args))
	}
	if got, ok := impl.MovesFor(params, args); !isRefused(got, ok) {
		t.Errorf("MovesFor(%q, %q) = %q, %v", params, args, got, ok)
	}
	if got, ok := impl.SteadyParams(params, args); got != "" || ok {
		t.Errorf("SteadyParams(%q, %q) = %q, %v", params, args, got, ok)
	}
	for _, n := range []int{0, 1, 2, 60, 61, -1} {
		if got, ok := impl.LoopAfter(params, args, n); got != "" || ok {
			t.Errorf("LoopAfter(%q, %q, %d) = %q, %v", params, args, n, got, ok)
		}
	}
	// If the parameters are valid, the call with them as arguments is.
	for _, other := range []string{params, strings.Repeat("1", len(params)), args} {
		if got, ok := impl.CallAfter(params, args, other); got != "" || ok {
			t.Errorf("CallAfter(%q, %q, %q) = %q, %v", params, args, other, got, ok)
		}
		if got, ok := impl.CallAfter(params, other, args); got != "" || ok {
			t.Errorf("CallAfter(%q, %q, %q) = %q, %v", params, other, args, got, ok)
		}
	}
}

func checkArgsRefused(t *testing.T, params string, list []impl.Move) {
	t.Helper()
	if got, ok := impl.ArgsOf(params, list); got != "" || ok {
		t.Errorf("ArgsOf(%q, %q) = %q, %v", params, list, got, ok)
	}
}

func TestConstantsOfCalls(t *testing.T) {
	if impl.MaxArgs != 4 {
		t.Errorf("MaxArgs = %d", impl.MaxArgs)
	}
}

func TestCallsOfTheDocument(t *testing.T) {
	if got, ok := impl.LoopAfter("abc", "bca", 2); got != "cab" || !ok {
		t.Errorf("LoopAfter = %q, %v", got, ok)
	}
	if got, ok := impl.CallAfter("abc", "bca", "bca"); got != "cab" || !ok {
		t.Errorf("CallAfter = %q, %v", got, ok)
	}
	list, ok := impl.MovesFor("ba", "ab")
	if !isMoves(list, ok, moves("b", "a", "a", "b")) {
		t.Errorf("MovesFor = %q, %v", list, ok)
	}
	if got, ok := impl.ArgsOf("ba", list); got != "ab" || !ok {
		t.Errorf("ArgsOf = %q, %v", got, ok)
	}
}

func TestCalls(t *testing.T) {
	tests := []struct {
		params string
		args   string
		moves  string
		cost   int
		twice  string
		steady string
	}{
		// One parameter.
		{"a", "a", "a=a", 0, "a", "a"},
		{"a", "b", "a=b", 1, "b", ""},
		{"f", "1", "f=1", 1, "1", ""},
		{"f", "f", "f=f", 0, "f", "f"},
		{"c", "C", "c=C", 1, "C", ""},
		{"b", "0", "b=0", 1, "0", ""},
		// Two, in alphabetical and in another order.
		{"ab", "ab", "a=a,b=b", 0, "ab", "ab"},
		{"ba", "ba", "b=b,a=a", 0, "ba", "ba"},
		{"ab", "ba", "a=b,b=a", 3, "ab", ""},
		{"ba", "ab", "b=a,a=b", 3, "ba", ""},
		{"ef", "AB", "e=A,f=B", 2, "AB", ""},
		{"ef", "fA", "e=f,f=A", 2, "AA", ""},
		{"fb", "bd", "f=b,b=d", 2, "dd", ""},
		{"ca", "c9", "c=c,a=9", 1, "c9", "c"},
		// The same argument for more than one parameter.
		{"ab", "aa", "a=a,b=a", 1, "aa", "a"},
		{"ab", "bb", "a=b,b=b", 1, "bb", "b"},
		{"ab", "cc", "a=c,b=c", 2, "cc", ""},
		{"ab", "77", "a=7,b=7", 2, "77", ""},
		{"abc", "baa", "a=b,b=a,c=a", 3, "abb", ""},
		{"abc", "bab", "a=b,b=a,c=b", 3, "aba", ""},
		{"abc", "caa", "a=c,b=a,c=a", 3, "acc", ""},
		{"abcd", "aaaa", "a=a,b=a,c=a,d=a", 3, "aaaa", "a"},
		{"abcd", "eeee", "a=e,b=e,c=e,d=e", 4, "eeee", ""},
		{"abcd", "babb", "a=b,b=a,c=b,d=b", 4, "abaa", ""},
		// Digits that are passed on.
		{"ab", "b1", "a=b,b=1", 2, "11", ""},
		{"ab", "1a", "a=1,b=a", 2, "11", ""},
		{"ba", "a7", "b=a,a=7", 2, "77", ""},
		{"abcd", "1abc", "a=1,b=a,c=b,d=c", 4, "11ab", ""},
		{"abcd", "bcd9", "a=b,b=c,c=d,d=9", 4, "cd99", ""},
		{"abcd", "1234", "a=1,b=2,c=3,d=4", 4, "1234", ""},
		// Three, with rings that need one step more.
		{"abc", "bca", "a=b,b=c,c=a", 4, "cab", ""},
		{"abc", "cab", "a=c,b=a,c=b", 4, "bca", ""},
		{"cab", "bca", "c=b,a=c,b=a", 4, "abc", ""},
		{"cab", "cba", "c=c,a=b,b=a", 3, "cab", "c"},
		{"abc", "bac", "a=b,b=a,c=c", 3, "abc", "c"},
		{"fed", "def", "f=d,e=e,d=f", 3, "fed", "e"},
		{"abc", "1bA", "a=1,b=b,c=A", 2, "1bA", "b"},
		{"bca", "bca", "b=b,c=c,a=a", 0, "bca", "bca"},
		{"cba", "cb1", "c=c,b=b,a=1", 1, "cb1", "cb"},
		// Four.
		{"abcd", "abcd", "a=a,b=b,c=c,d=d", 0, "abcd", "abcd"},
		{"dcba", "dcba", "d=d,c=c,b=b,a=a", 0, "dcba", "dcba"},
		{"dcba", "abcd", "d=a,c=b,b=c,a=d", 6, "dcba", ""},
		{"abcd", "badc", "a=b,b=a,c=d,d=c", 6, "abcd", ""},
		{"abcd", "bcda", "a=b,b=c,c=d,d=a", 5, "cdab", ""},
		{"abcd", "bcad", "a=b,b=c,c=a,d=d", 4, "cabd", "d"},
		{"abcd", "bacd", "a=b,b=a,c=c,d=d", 3, "abcd", "cd"},
		{"dbca", "abcd", "d=a,b=b,c=c,a=d", 3, "dbca", "bc"},
		{"dcba", "acbd", "d=a,c=c,b=b,a=d", 3, "dcba", "cb"},
		{"abcd", "badd", "a=b,b=a,c=d,d=d", 4, "abdd", "d"},
		{"bdac", "abcA", "b=a,d=b,a=c,c=A", 4, "caAA", ""},
		{"abcd", "efAB", "a=e,b=f,c=A,d=B", 4, "efAB", ""},
	}
	for _, test := range tests {
		if got, ok := impl.MovesFor(test.params, test.args); !isMoves(got, ok, movesOf(test.moves)) {
			t.Errorf("MovesFor(%q, %q) = %q, %v", test.params, test.args, got, ok)
		}
		if got := impl.CallCost(test.params, test.args); got != test.cost {
			t.Errorf("CallCost(%q, %q) = %d", test.params, test.args, got)
		}
		if got, ok := impl.LoopAfter(test.params, test.args, 2); got != test.twice || !ok {
			t.Errorf("LoopAfter(%q, %q, 2) = %q, %v", test.params, test.args, got, ok)
		}
		if got, ok := impl.CallAfter(test.params, test.args, test.args); got != test.twice || !ok {
			t.Errorf("CallAfter(%q, %q, %q) = %q, %v", test.params, test.args, test.args, got, ok)
		}
		if got, ok := impl.SteadyParams(test.params, test.args); got != test.steady || !ok {
			t.Errorf("SteadyParams(%q, %q) = %q, %v", test.params, test.args, got, ok)
		}
		if got := impl.IsSteady(test.params, test.args); got != (test.cost == 0) {
			t.Errorf("IsSteady(%q, %q) = %v", test.params, test.args, got)
		}
		checkCalls(t, test.params, test.args, test.params, 60)
		checkCalls(t, test.params, test.args, test.args, 7)
	}
}

func TestCallAfter(t *testing.T) {
	tests := []struct{ params, first, second, want string }{
		{"a", "b", "a", "b"},
		{"a", "a", "b", "b"},
		{"a", "b", "c", "c"},
		{"a", "b", "b", "b"},
		{"a", "1", "a", "1"},
		{"a", "1", "2", "2"},
		{"f", "C", "f", "C"},
		// A call whose arguments are all its parameters, ahead of another one and behind it.
		{"ab", "12", "ab", "12"},
		{"ab", "ab", "12", "12"},
		{"ba", "ba", "aC", "aC"},
		{"ba", "aC", "ba", "aC"},
		// Arguments that are parameters of others.
		{"ab", "ba", "ba", "ab"},
		{"ab", "bb", "ba", "bb"},
		{"ab", "ba", "aa", "bb"},
		{"ab", "aa", "ba", "aa"},
		{"ab", "ba", "cb", "ca"},
		{"ab", "cb", "ba", "bc"},
		{"abc", "bca", "bca", "cab"},
		{"abc", "bca", "cab", "abc"},
		{"abc", "cab", "bca", "abc"},
		{"abc", "bac", "acb", "bca"},
		{"abc", "acb", "bac", "cab"},
		// Parameters in another order.
		{"ba", "1a", "bA", "1A"},
		{"ba", "a1", "ab", "1a"},
		{"ba", "ab", "ab", "ba"},
		{"cab", "abc", "bca", "cab"},
		{"dbac", "1d7a", "cabd", "a7d1"},
		// Digits that are passed on, and those that are not.
		{"ab", "1a", "bA", "aA"},
		{"ab", "12", "ba", "21"},
		{"ab", "ba", "12", "12"},
		{"ab", "12", "34", "34"},
		{"ab", "12", "bb", "22"},
		{"abcd", "1abc", "bcd2", "abc2"},
		{"abcd", "bcd2", "1abc", "1bcd"},
		// Places that are no parameters keep what they have.
		{"ab", "cd", "ba", "dc"},
		{"ab", "ba", "cd", "cd"},
		{"ab", "c1", "bb", "11"},
		{"ab", "AB", "bC", "BC"},
		{"ab", "1c", "cb", "cc"},
		{"abcd", "efAB", "dcba", "BAfe"},
	}
	for _, test := range tests {
		if got, ok := impl.CallAfter(test.params, test.first, test.second); got != test.want || !ok {
			t.Errorf("CallAfter(%q, %q, %q) = %q, %v", test.params, test.first, test.second, got, ok)
		}
		checkCalls(t, test.params, test.first, test.second, 5)
		checkCalls(t, test.params, test.second, test.first, 6)
	}
}

func TestLoopAfter(t *testing.T) {
	tests := []struct {
		params string
		args   string
		loops  map[int]string
	}{
		{"a", "a", map[int]string{0: "a", 1: "a", 2: "a", 60: "a"}},
		{"a", "b", map[int]string{0: "a", 1: "b", 2: "b", 60: "b"}},
		{"f", "7", map[int]string{0: "f", 1: "7", 2: "7", 60: "7"}},
		// Rings.
		{"ab", "ba", map[int]string{0: "ab", 1: "ba", 2: "ab", 59: "ba", 60: "ab"}},
		{"ba", "ab", map[int]string{0: "ba", 1: "ab", 2: "ba", 59: "ab", 60: "ba"}},
		{"abc", "bca", map[int]string{0: "abc", 1: "bca", 2: "cab", 3: "abc", 4: "bca", 59: "cab", 60: "abc"}},
		{"cab", "bca", map[int]string{0: "cab", 1: "bca", 2: "abc", 3: "cab", 59: "abc", 60: "cab"}},
		{"abcd", "bcda", map[int]string{0: "abcd", 1: "bcda", 2: "cdab", 3: "dabc", 4: "abcd", 59: "dabc", 60: "abcd"}},
		{"abcd", "badc", map[int]string{0: "abcd", 1: "badc", 2: "abcd", 59: "badc", 60: "abcd"}},
		{"abc", "bac", map[int]string{0: "abc", 1: "bac", 2: "abc", 59: "bac", 60: "abc"}},
		// Rings that others read.
		{"abcd", "badd", map[int]string{0: "abcd", 1: "badd", 2: "abdd", 3: "badd", 60: "abdd"}},
		{"abcd", "baab", map[int]string{0: "abcd", 1: "baab", 2: "abba", 3: "baab", 59: "baab", 60: "abba"}},
		// Values that are passed on from one parameter to the next one.
		{"abcd", "1abc", map[int]string{0: "abcd", 1: "1abc", 2: "11ab", 3: "111a", 4: "1111", 5: "1111", 60: "1111"}},
		{"abcd", "bcdA", map[int]string{0: "abcd", 1: "bcdA", 2: "cdAA", 3: "dAAA", 4: "AAAA", 60: "AAAA"}},
		{"dcba", "cba7", map[int]string{0: "dcba", 1: "cba7", 2: "ba77", 3: "a777", 4: "7777", 60: "7777"}},
		{"fa", "ae", map[int]string{0: "fa", 1: "ae", 2: "ee", 60: "ee"}},
	}
	for _, test := range tests {
		for n, want := range test.loops {
			if got, ok := impl.LoopAfter(test.params, test.args, n); got != want || !ok {
				t.Errorf("LoopAfter(%q, %q, %d) = %q, %v, not %q", test.params, test.args, n, got, ok, want)
			}
		}
		loops := test.params
		for n := range 61 {
			if got, ok := impl.LoopAfter(test.params, test.args, n); got != loops || !ok {
				t.Errorf("LoopAfter(%q, %q, %d) = %q, %v, but %q by CallAfter", test.params, test.args, n, got, ok, loops)
			}
			loops, _ = impl.CallAfter(test.params, loops, test.args)
		}
	}
}

func TestArgsOf(t *testing.T) {
	tests := []struct {
		params string
		list   string
		want   string // empty if there are none
	}{
		// Parameters without a move keep what they have.
		{"a", "-", "a"},
		{"ab", "-", "ab"},
		{"ba", "-", "ba"},
		{"dcba", "-", "dcba"},
		{"a", "a=a", "a"},
		{"ab", "b=1", "a1"},
		{"ba", "b=1", "1a"},
		{"abcd", "d=0", "abc0"},
		{"ab", "a=c", "cb"},
		// Moves in any order, with parameters in any order.
		{"a", "a=b", "b"},
		{"ab", "a=b,b=a", "ba"},
		{"ba", "a=b,b=a", "ab"},
		{"ab", "b=C,a=f", "fC"},
		{"ba", "b=C,a=f", "Cf"},
		{"abc", "c=a,a=b,b=c", "bca"},
		{"cab", "a=b,b=c,c=a", "abc"},
		{"abcd", "a=A,b=A,c=9,d=9", "AA99"},
		{"fedc", "c=f,d=f,e=f", "ffff"},
		// Idle moves, also to places that are no parameters.
		{"ba", "a=7,c=c", "b7"},
		{"ab", "c=c,C=C", "ab"},
		{"fa", "a=f,f=C,B=B", "Cf"},
		{"ab", "a=a,b=a", "aa"},
		{"c", "a=a,b=b,c=c,d=d,e=e,f=f,A=A,B=B,C=C", "c"},
		{"c", "a=a,b=b,c=1,d=d,e=e,f=f,A=A,B=B,C=C", "1"},
		// Places that are no parameters, and get another value.
		{"ba", "c=a", ""},
		{"a", "b=a", ""},
		{"a", "A=a", ""},
		{"a", "A=1", ""},
		{"b", "a=b", ""},
		{"abcd", "e=1", ""},
		{"abcd", "f=e", ""},
		{"a", "a=1,b=2", ""},
		{"b", "a=1,b=2", ""},
		{"a", "A=B,a=b", ""},
		{"ab", "a=b,b=a,c=a", ""},
		{"ab", "a=1,C=b,b=2", ""},
		{"abc", "d=d,e=d", ""},
		{"abc", "e=d,d=d", ""},
		{"abcd", "a=b,b=c,c=d,d=e,e=f,f=A,A=B,B=C,C=a", ""},
	}
	for _, test := range tests {
		list := movesOf(test.list)
		if got, ok := impl.ArgsOf(test.params, list); got != test.want || ok != (test.want != "") {
			t.Errorf("ArgsOf(%q, %s) = %q, %v", test.params, test.list, got, ok)
		}
		for _, params := range allParameters() {
			checkArgsOf(t, params, list)
		}
	}
}

func TestAllParameters(t *testing.T) {
	all := allParameters()
	if len(all) != 6+30+120+360 {
		t.Fatalf("%d parameters", len(all))
	}
	for _, params := range all {
		for _, args := range []string{params, "bcda"[:len(params)], "A1Cf"[:len(params)], "aab7"[:len(params)], "0000"[:len(params)]} {
			checkCalls(t, params, args, "dcba"[:len(params)], 3)
			checkCalls(t, params, args, "b1aB"[:len(params)], 4)
		}
		if t.Failed() {
			return
		}
	}
}

// TestCallsOfAllTexts tries all texts of one and of two bytes as parameters, and as arguments.
func TestCallsOfAllTexts(t *testing.T) {
	for one := range 256 {
		first := string([]byte{byte(one)})
		for _, args := range []string{"b", "7"} {
			if got := impl.CallValid(first, args); got != oneOf(registerLetters, first) {
				t.Errorf("CallValid(%q, %q) = %v", first, args, got)
			}
		}
		for _, params := range []string{"a", "f"} {
			if got := impl.CallValid(params, first); got != oneOf(sourceLetters, first) {
				t.Errorf("CallValid(%q, %q) = %v", params, first, got)
			}
		}
		for two := range 256 {
			second := string([]byte{byte(two)})
			if got := impl.CallValid(first+second, "aC"); got != (oneOf(registerLetters, first) && oneOf(registerLetters, second) && one != two) {
				t.Errorf("CallValid(%q, aC) = %v", first+second, got)
			}
			if got := impl.CallValid("ba", first+second); got != (oneOf(sourceLetters, first) && oneOf(sourceLetters, second)) {
				t.Errorf("CallValid(ba, %q) = %v", first+second, got)
			}
		}
	}
}

func TestAllCallsWithOneAndTwoParameters(t *testing.T) {
	for _, params := range allParameters() {
		if len(params) > 2 {
			break
		}
		for _, args := range allArguments(len(params), sourceLetters) {
			checkCall(t, params, args)
		}
	}
	for _, params := range []string{"ab", "ba", "fb"} {
		for _, first := range allArguments(2, "abfA15") {
			for _, second := range allArguments(2, "abfA15") {
				checkCalls(t, params, first, second, 3)
			}
		}
	}
}

func TestAllCallsWithThreeParameters(t *testing.T) {
	for _, params := range []string{"abc", "cab"} {
		for _, first := range allArguments(3, "abcC0") {
			checkCall(t, params, first)
			for _, second := range allArguments(3, "abcC0") {
				checkCallAfter(t, params, first, second)
			}
		}
	}
}

func TestCallsAgainstTheModel(t *testing.T) {
	r := rand.New(rand.NewSource(61))
	rings, steady := 0, 0
	for range 5000 {
		params := randomParameters(r)
		first, second := randomArguments(r, params), randomArguments(r, params)
		checkCalls(t, params, first, second, r.Intn(61))
		if impl.NeedsSpare(callModel{params, first}.moves()) {
			rings++
		}
		if impl.IsSteady(params, first) {
			steady++
		}
		if t.Failed() {
			return
		}
	}
	if rings < 200 || steady < 200 {
		t.Errorf("%d calls with closed rings, and %d steady ones", rings, steady)
	}
}

func TestArgsOfAgainstTheModel(t *testing.T) {
	r := rand.New(rand.NewSource(62))
	some, none := 0, 0
	for range 5000 {
		params := randomParameters(r)
		checkArgsOf(t, params, randomMoves(r))
		// Most moves to other places are idle, so that there are arguments often.
		list := randomMoves(r)
		for i, m := range list {
			if !strings.Contains(params, m.To) && r.Intn(8) > 0 {
				list[i].From = m.To
			}
		}
		checkArgsOf(t, params, list)
		if model(list).argsOf(params) == "" {
			none++
		} else {
			some++
		}
		if t.Failed() {
			return
		}
	}
	if some < 1000 || none < 500 {
		t.Errorf("%d moves of calls, and %d others", some, none)
	}
}

func TestArgsOfAllMovesOfThreePlaces(t *testing.T) {
	for _, sorted := range allMovesOf("bfB", "bfB5") {
		for _, list := range ordersOf(sorted) {
			for _, params := range []string{"b", "f", "bf", "fb", "a", "ab", "fab", "cfbd"} {
				checkArgsOf(t, params, list)
			}
		}
	}
}

// TestNoFewerStepsThanTheCost compares the cost of calls of at most four places with a search.
func TestNoFewerStepsThanTheCost(t *testing.T) {
	for _, params := range []string{"a", "ba", "cab"} {
		for _, args := range allArguments(len(params), "abcC7") {
			list, _ := impl.MovesFor(params, args)
			if least := impl.FewestSteps(list); least != impl.CallCost(params, args) {
				t.Errorf("CallCost(%q, %q) = %d, but FewestSteps = %d", params, args, impl.CallCost(params, args), least)
			}
		}
	}
}

func TestCallsOfTextsThatAreNoParameters(t *testing.T) {
	for _, params := range notParameters {
		// As many arguments as parameters, and others, that would be valid with other parameters.
		checkCallRefused(t, params, strings.Repeat("a", len(params)))
		checkCallRefused(t, params, strings.Repeat("7", len(params)))
		for _, args := range []string{params, "", "a", "1", "ba", "C0", "bca", "abcd", "1234", "abcde", "t"} {
			checkCallRefused(t, params, args)
		}
		for _, list := range []string{"-", "a=a", "a=b", "b=a,a=b", "A=A", "c=1"} {
			checkArgsRefused(t, params, movesOf(list))
		}
	}
}

func TestTextsThatAreNoArguments(t *testing.T) {
	for _, params := range []string{"a", "ba", "fce", "dabc"} {
		// Fewer and more than parameters.
		for n := range 8 {
			if n != len(params) {
				for _, args := range []string{strings.Repeat("a", n), strings.Repeat("7", n), "fA1bcd0"[:n]} {
					checkCallRefused(t, params, args)
				}
			}
		}
		checkCallRefused(t, params, params+params)
		checkCallRefused(t, params, params+"\n")
		checkCallRefused(t, params, strings.Repeat("a", 1000))
		// Another byte at any place of them, also behind them.
		for i := range params {
			for one := range 256 {
				arg := string([]byte{byte(one)})
				if !oneOf(sourceLetters, arg) {
					checkCallRefused(t, params, params[:i]+arg+params[i+1:])
					checkCallRefused(t, params, strings.Repeat("1", i)+arg+strings.Repeat("1", len(params)-i-1))
					checkCallRefused(t, params, params+arg)
				}
			}
		}
		// Letters of more than one byte, as many bytes or letters as parameters.
		for _, args := range []string{"é", "éé", "aé", "éa", "abé", "éab", "ééé", "éééé", "abcé", "٣", "٣٣", "€", "a€", "€a", "ａ", "𝟏"} {
			checkCallRefused(t, params, args)
		}
	}
}

func TestTimesThatNoCallIsMade(t *testing.T) {
	for _, n := range notPowers {
		for _, call := range []callModel{{"a", "a"}, {"a", "b"}, {"ab", "ba"}, {"ab", "ab"}, {"abc", "bca"}, {"dcba", "1dcb"}, {"ab", "12"}} {
			if got, ok := impl.LoopAfter(call.params, call.args, n); got != "" || ok {
				t.Errorf("LoopAfter(%q, %q, %d) = %q, %v", call.params, call.args, n, got, ok)
			}
		}
	}
}

func TestArgsOfListsThatAreNoMoves(t *testing.T) {
	lists := append(invalidLists(), movesOf("t=a"), movesOf("a=t"), movesOf("t=t"), movesOf("a=b,b=u"), movesOf("a=b,a=b"), movesOf("a=a,a=a"), movesOf("b=b,c=1,b=b"), slices.Repeat(moves("a", "b"), 1000))
	for _, list := range lists {
		for _, params := range []string{"a", "b", "ba", "abc", "abcd", "fedc", "", "aa", "A", "t", "abcde"} {
			checkArgsRefused(t, params, list)
		}
	}
}

func TestCallsShareNoMemory(t *testing.T) {
	for _, list := range append(invalidLists(), movesOf("b=a,a=b"), movesOf("b=a,a=1,c=c"), movesOf("a=a"), movesOf("-")) {
		short, room := roomBehind(list)
		before := slices.Clone(room)
		for _, params := range []string{"a", "ab", "bac", "", "aa"} {
			impl.ArgsOf(params, short)
		}
		if !slices.Equal(room, before) {
			t.Errorf("%q: an argument was changed", list)
		}
	}
	for _, call := range []callModel{{"a", "a"}, {"ba", "ab"}, {"abc", "bca"}, {"dcba", "1dcb"}, {"ba", "a"}, {"ab", "at"}, {"", ""}} {
		one, _ := impl.MovesFor(call.params, call.args)
		two, _ := impl.MovesFor(call.params, call.args)
		want := slices.Clone(two)
		clear(one[:cap(one)])
		if !slices.Equal(two, want) {
			t.Errorf("%v: a result of MovesFor shares memory", call)
		}
	}
}
