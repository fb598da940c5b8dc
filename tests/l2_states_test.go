package tests

import (
	"math"
	"math/rand"
	"slices"
	"strings"
	"testing"

	"loop.example/parallelmoves/impl"
)

const (
	cellLetters  = placeLetters + "tu"
	valueLetters = digitLetters + "abcdefghijklmnopqrstuvwxyz" + "ABCDEFGHIJKLMNOPQRSTUVWXYZ"

	someState = "123456789xy"
)

// notCells are texts that are no places and no spare ones; notReadable are no digits either.
var (
	notReadable = []string{"", "g", "s", "v", "D", "T", "U", "tu", "at", "ab", "aa", "tt", "abcdefABCtu", "12", "01", "10", "-1", "-", "=", "~", ";", " ", "t ", " t", "a\n", "\x00", "t\x00", "\xff", "é", "٣"}
	notCells    = append([]string{"0", "1", "5", "9"}, notReadable...)
	notKinds    = []int{-1, 2, 3, 60, 256, 1 << 32, math.MaxInt, math.MinInt}
)

func take(to string, from string) impl.Step {
	return impl.Step{Kind: impl.StepMove, Move: impl.Move{To: to, From: from}}
}

func swap(to string, from string) impl.Step {
	return impl.Step{Kind: impl.StepSwap, Move: impl.Move{To: to, From: from}}
}

// steps makes a sequence from texts of three bytes, so that a test does not need ParseSequence to be right.
func steps(texts ...string) []impl.Step {
	seq := []impl.Step{}
	for _, text := range texts {
		if text[1] == '~' {
			seq = append(seq, swap(text[:1], text[2:]))
		} else {
			seq = append(seq, take(text[:1], text[2:]))
		}
	}
	return seq
}

func repeated(step impl.Step, n int) []impl.Step {
	return slices.Repeat([]impl.Step{step}, n)
}

// invalidStates are texts that are no states.
func invalidStates() []string {
	states := []string{"", "1", "123", "123456789", someState[:10], someState + "1", someState + someState, " " + someState, someState + "\n", "123456789é", "1234567890é", "éééééé", strings.Repeat("é", 11), strings.Repeat("1", 1000)}
	for i := range someState {
		for b := range 256 {
			if !strings.Contains(valueLetters, string([]byte{byte(b)})) {
				states = append(states, someState[:i]+string([]byte{byte(b)})+someState[i+1:])
			}
		}
	}
	return states
}

// invalidSteps are steps of which no sequence may have one.
func invalidSteps() []impl.Step {
	list := []impl.Step{take("", ""), swap("", "")}
	for _, name := range notCells {
		list = append(list, take(name, "a"), take(name, "t"), take(name, "1"), take(name, name))
		list = append(list, swap(name, "a"), swap("t", name), swap(name, name))
	}
	for _, name := range notReadable {
		list = append(list, take("a", name), take("u", name))
	}
	for _, kind := range notKinds {
		list = append(list, impl.Step{Kind: kind, Move: impl.Move{To: "a", From: "b"}}, impl.Step{Kind: kind, Move: impl.Move{To: "t", From: "u"}})
	}
	return list
}

// invalidSequences are lists of steps that are no sequences.
func invalidSequences() [][]impl.Step {
	lists := [][]impl.Step{
		repeated(take("a", "b"), 61),
		repeated(swap("t", "t"), 61),
		repeated(take("a", "a"), 1000),
		append(repeated(take("a", "b"), 60), take("1", "a")),
		append(repeated(take("a", "b"), 59), take("a", "x")),
	}
	for _, step := range invalidSteps() {
		lists = append(lists, []impl.Step{step}, []impl.Step{step, take("a", "b")}, []impl.Step{swap("a", "t"), step}, []impl.Step{take("b", "1"), step, swap("u", "C")})
	}
	return lists
}

// stepModel does what the document says of sequences. It asks for each place, from the last step to the first one,
// where its value was ahead of the step, and never makes a state between two steps.
type stepModel []impl.Step

func oneOf(letters string, name string) bool {
	return len(name) == 1 && strings.Contains(letters, name)
}

func (q stepModel) valid() bool {
	for _, step := range q {
		from := cellLetters
		if step.Kind == impl.StepMove {
			from += digitLetters
		} else if step.Kind != impl.StepSwap {
			return false
		}
		if !oneOf(cellLetters, step.To) || !oneOf(from, step.From) {
			return false
		}
	}
	return len(q) <= 60
}

// origin returns the place or the spare one of which a place has the value in the end, or a digit.
func (q stepModel) origin(name string) string {
	for _, step := range slices.Backward(q) {
		if name == step.To {
			name = step.From
		} else if name == step.From && step.Kind == impl.StepSwap {
			name = step.To
		}
		// A digit is no To, and no From of a swap, so it stays.
	}
	return name
}

// valueIn returns the value of a place or a spare one in a state, or the digit.
func valueIn(s string, name string) string {
	if i := strings.Index(cellLetters, name); i >= 0 {
		return s[i : i+1]
	}
	return name
}

func (q stepModel) run(s string) string {
	after := ""
	for _, name := range strings.Split(cellLetters, "") {
		after += valueIn(s, q.origin(name))
	}
	return after
}

func (q stepModel) effect() ([]impl.Move, bool) {
	list := []impl.Move{}
	for _, name := range strings.Split(placeLetters, "") {
		from := q.origin(name)
		if from == "t" || from == "u" {
			return nil, false
		}
		if from != name {
			list = append(list, impl.Move{To: name, From: from})
		}
	}
	return list, true
}

func (q stepModel) touched() string {
	text := ""
	for _, name := range strings.Split(cellLetters, "") {
		if slices.ContainsFunc(q, func(s impl.Step) bool {
			return s.To == name || s.Kind == impl.StepSwap && s.From == name
		}) {
			text += name
		}
	}
	return text
}

func (q stepModel) format() string {
	text := ""
	for _, step := range q {
		text += ";" + step.To + map[int]string{impl.StepMove: "=", impl.StepSwap: "~"}[step.Kind] + step.From
	}
	if text == "" {
		return "-"
	}
	return text[1:]
}

// atOnce returns the state behind moves, by the model of chapter 1.
func (l model) atOnce(s string) string {
	after := ""
	for _, name := range strings.Split(placeLetters, "") {
		after += valueIn(s, l.source(name))
	}
	return after + s[len(placeLetters):]
}

// checkSequence checks the results of all functions for a sequence against the model.
func checkSequence(t *testing.T, seq []impl.Step, states ...string) {
	t.Helper()
	want := stepModel(seq)
	text := want.format()
	if !impl.SequenceValid(seq) || impl.FormatSequence(seq) != text {
		t.Errorf("%s: SequenceValid = %v, FormatSequence = %q", text, impl.SequenceValid(seq), impl.FormatSequence(seq))
	}
	if got, ok := impl.ParseSequence(text); !slices.Equal(got, seq) || !ok {
		t.Errorf("%s: ParseSequence = %v, %v", text, got, ok)
	}
	for _, s := range states {
		if got, ok := impl.InOrder(seq, s); got != want.run(s) || !ok {
			t.Errorf("%s: InOrder(%q) = %q, %v, not %q", text, s, got, ok, want.run(s))
		}
	}
	list, right := want.effect()
	if got, ok := impl.EffectOf(seq); !slices.Equal(got, list) || ok != right {
		t.Errorf("%s: EffectOf = %q, %v, not %q, %v", text, got, ok, list, right)
	}
	if impl.IsRight(seq, list) != right {
		t.Errorf("%s: IsRight is not %v for %q", text, right, list)
	}
	if got, ok := impl.TouchedBy(seq); got != want.touched() || !ok {
		t.Errorf("%s: TouchedBy = %q, %v, not %q", text, got, ok, want.touched())
	}
}

// checkSequenceRefused checks the results of all functions for a list that is no sequence.
func checkSequenceRefused(t *testing.T, seq []impl.Step) {
	t.Helper()
	if impl.SequenceValid(seq) || impl.FormatSequence(seq) != "" {
		t.Errorf("%v: SequenceValid = %v, FormatSequence = %q", seq, impl.SequenceValid(seq), impl.FormatSequence(seq))
	}
	if got, ok := impl.InOrder(seq, someState); got != "" || ok {
		t.Errorf("%v: InOrder = %q, %v", seq, got, ok)
	}
	if got, ok := impl.EffectOf(seq); len(got) != 0 || ok {
		t.Errorf("%v: EffectOf = %q, %v", seq, got, ok)
	}
	if got, ok := impl.TouchedBy(seq); got != "" || ok {
		t.Errorf("%v: TouchedBy = %q, %v", seq, got, ok)
	}
	for _, list := range [][]impl.Move{nil, moves("a", "b"), moves("a", "t")} {
		if impl.IsRight(seq, list) {
			t.Errorf("%v: IsRight for %q", seq, list)
		}
	}
}

func randomState(r *rand.Rand) string {
	s := ""
	for range cellLetters {
		s += randomLetter(r, valueLetters)
	}
	return s
}

// randomSequence returns steps between few or many places, so that later steps often read what earlier ones wrote.
// Half of the sequences read no spare place, so that their effects are often moves.
func randomSequence(r *rand.Rand) []impl.Step {
	letters := cellLetters
	if r.Intn(2) == 0 {
		letters = placeLetters
	}
	if r.Intn(2) == 0 {
		few := ""
		for range 2 + r.Intn(3) {
			few += randomLetter(r, letters)
		}
		letters = few
	}
	seq := []impl.Step{}
	for range r.Intn(61) {
		switch to, from := randomLetter(r, letters), randomLetter(r, letters); r.Intn(5) {
		case 0:
			seq = append(seq, take(to, randomLetter(r, digitLetters)))
		case 1, 2:
			seq = append(seq, take(to, from))
		default:
			seq = append(seq, swap(to, from))
		}
	}
	return seq
}

func TestConstantsOfSequences(t *testing.T) {
	if impl.StepMove != 0 || impl.StepSwap != 1 || impl.Spares != "tu" || impl.MaxSteps != 60 {
		t.Error(impl.StepMove, impl.StepSwap, impl.Spares, impl.MaxSteps)
	}
	if step := (impl.Step{Move: impl.Move{To: "a", From: "b"}}); step.Kind != impl.StepMove || step.To != "a" || step.From != "b" {
		t.Errorf("Step = %v", step)
	}
}

func TestSequenceOfTheDocument(t *testing.T) {
	seq := steps("t=a", "a=b", "b=t")
	if text := impl.FormatSequence(seq); text != "t=a;a=b;b=t" {
		t.Errorf("FormatSequence = %q", text)
	}
	if list, ok := impl.EffectOf(seq); impl.FormatMoves(list) != "a=b,b=a" || !ok {
		t.Errorf("EffectOf = %q, %v", list, ok)
	}
	if !impl.IsRight(seq, moves("a", "b", "b", "a")) || !impl.IsRight(seq, moves("b", "a", "a", "b")) {
		t.Error("IsRight")
	}
	if s, ok := impl.InOrder(seq, someState); s != "2134567891y" || !ok {
		t.Errorf("InOrder = %q, %v", s, ok)
	}
	if s, ok := impl.AtOnce(moves("a", "b", "b", "a"), someState); s != "213456789xy" || !ok {
		t.Errorf("AtOnce = %q, %v", s, ok)
	}
}

func TestStateValid(t *testing.T) {
	for i := range someState {
		for _, v := range strings.Split(valueLetters, "") {
			if s := someState[:i] + v + someState[i+1:]; !impl.StateValid(s) {
				t.Errorf("StateValid(%q) is false", s)
			}
		}
	}
	for _, s := range invalidStates() {
		if impl.StateValid(s) {
			t.Errorf("StateValid(%q)", s)
		}
	}
}

func TestStatesThatAreNone(t *testing.T) {
	for _, s := range invalidStates() {
		for _, list := range [][]impl.Move{nil, moves("a", "b"), moves("a", "1"), moves("a", "t")} {
			if got, ok := impl.AtOnce(list, s); got != "" || ok {
				t.Errorf("AtOnce(%q, %q) = %q, %v", list, s, got, ok)
			}
		}
		for _, seq := range [][]impl.Step{nil, steps("a=b"), steps("t~u", "a=1"), steps("a~1")} {
			if got, ok := impl.InOrder(seq, s); got != "" || ok {
				t.Errorf("InOrder(%v, %q) = %q, %v", seq, s, got, ok)
			}
		}
	}
}

func TestAtOnce(t *testing.T) {
	tests := []struct {
		list []impl.Move
		want string
	}{
		{nil, someState},
		{moves(), someState},
		{moves("a", "a", "C", "C"), someState},
		{moves("b", "a", "a", "b"), "213456789xy"},
		{moves("a", "b", "b", "c", "c", "a", "d", "a"), "231156789xy"},
		{moves("a", "9", "b", "a", "c", "b"), "912456789xy"},
		{moves("C", "0", "f", "C", "A", "f"), "123459680xy"},
		{moves("a", "C", "b", "C", "c", "C", "d", "C", "e", "C", "f", "C", "A", "C", "B", "C"), "999999999xy"},
	}
	for _, test := range tests {
		if got, ok := impl.AtOnce(test.list, someState); got != test.want || !ok {
			t.Errorf("AtOnce(%q) = %q, %v, not %q", test.list, got, ok, test.want)
		}
	}
	// The names of places and numbers may be values too, and are not read as such.
	if got, ok := impl.AtOnce(moves("a", "b", "b", "1", "c", "C"), "bca21tutuAB"); got != "c1u21tutuAB" || !ok {
		t.Errorf("AtOnce = %q, %v", got, ok)
	}
	r := rand.New(rand.NewSource(3))
	for range 3000 {
		list, s := randomMoves(r), randomState(r)
		if got, ok := impl.AtOnce(list, s); got != model(list).atOnce(s) || !ok {
			t.Errorf("AtOnce(%q, %q) = %q, %v, not %q", list, s, got, ok, model(list).atOnce(s))
		}
	}
	for _, list := range append(invalidLists(), moves("t", "a"), moves("a", "u"), moves("t", "t")) {
		if got, ok := impl.AtOnce(list, someState); got != "" || ok {
			t.Errorf("AtOnce(%q) = %q, %v", list, got, ok)
		}
	}
}

func TestStepsOneAfterTheOther(t *testing.T) {
	tests := []struct {
		seq     []impl.Step
		state   string
		effect  string // empty if a place has in the end a value of a spare one
		touched string
	}{
		{nil, someState, "-", ""},
		{steps(), someState, "-", ""},
		{steps("a=b", "b=c", "c=a"), "232456789xy", "a=b,b=c,c=b", "abc"},
		{steps("a=b", "b=a"), "223456789xy", "a=b", "ab"},
		{steps("a~b", "b~c"), "231456789xy", "a=b,b=c,c=a", "abc"},
		{steps("b~a", "c~b"), "231456789xy", "a=b,b=c,c=a", "abc"},
		{steps("a~b", "a=c", "B~a"), "813456739xy", "a=B,b=a,B=c", "abB"},
		{steps("C=a", "a=a", "b=b"), "123456781xy", "C=a", "abC"},
		// Swaps of a place with itself.
		{steps("a~a"), someState, "-", "a"},
		{steps("C~C", "t~t"), someState, "-", "Ct"},
		{steps("a=b", "a~a", "c=a"), "222456789xy", "a=b,c=b", "ac"},
		// Steps that take back what others did.
		{steps("a~b", "b~a"), someState, "-", "ab"},
		{steps("t=a", "a=b", "a=t"), "1234567891y", "-", "at"},
		{steps("t=t", "a=a"), someState, "-", "at"},
		// Spare places as To and as From.
		{steps("t=a"), "1234567891y", "-", "t"},
		{steps("u=7", "t=u"), "12345678977", "-", "tu"},
		{steps("t~u"), "123456789yx", "-", "tu"},
		{steps("t=a", "u=t", "a=b", "b=u"), "21345678911", "a=b,b=a", "abtu"},
		{steps("t=A", "u=B", "A=u", "B=t"), "12345687978", "A=B,B=A", "ABtu"},
		{steps("t~a", "a~b", "b~t"), "213456789xy", "a=b,b=a", "abt"},
		// Values that a spare place had at first.
		{steps("a=t"), "x23456789xy", "", "a"},
		{steps("a~u"), "y23456789x1", "", "au"},
		{steps("t=u", "B=t"), "1234567y9yy", "", "Bt"},
		{steps("a=b", "C=u"), "22345678yxy", "", "aC"},
		{steps("t~u", "b=u", "c=b"), "1xx456789yx", "", "bctu"},
		{steps("a=t", "a=b"), "223456789xy", "a=b", "a"},
		{steps("a~t", "a~t"), someState, "-", "at"},
		{steps("t~u", "t=a", "b=t"), "1134567891x", "b=a", "btu"},
		// Numbers that are passed on.
		{steps("a=7", "b=a"), "773456789xy", "a=7,b=7", "ab"},
		{steps("t=0", "u=t", "C=u", "a=C", "u=1"), "02345678001", "a=0,C=0", "aCtu"},
		{steps("a=5", "a~b", "b~c", "a=8", "d=b"), "835356789xy", "a=8,b=c,c=5,d=c", "abcd"},
	}
	for _, test := range tests {
		if got, ok := impl.InOrder(test.seq, someState); got != test.state || !ok {
			t.Errorf("%v: InOrder = %q, %v, not %q", test.seq, got, ok, test.state)
		}
		list, ok := impl.EffectOf(test.seq)
		if ok != (test.effect != "") || ok && impl.FormatMoves(list) != test.effect || !ok && len(list) != 0 {
			t.Errorf("%v: EffectOf = %q, %v, not %s", test.seq, list, ok, test.effect)
		}
		if got, ok := impl.TouchedBy(test.seq); got != test.touched || !ok {
			t.Errorf("%v: TouchedBy = %q, %v, not %q", test.seq, got, ok, test.touched)
		}
		checkSequence(t, test.seq, someState, "abcdefABCtu", "00000000000")
	}
}

func TestSequencesAgainstTheModel(t *testing.T) {
	for _, to := range strings.Split(cellLetters, "") {
		for _, from := range strings.Split(cellLetters+digitLetters, "") {
			checkSequence(t, []impl.Step{take(to, from)}, someState)
			if oneOf(cellLetters, from) {
				checkSequence(t, []impl.Step{swap(to, from)}, someState)
			}
		}
	}
	r := rand.New(rand.NewSource(4))
	for range 3000 {
		checkSequence(t, randomSequence(r), randomState(r), randomState(r))
	}
}

func TestStepsDoMovesAtOnce(t *testing.T) {
	r := rand.New(rand.NewSource(5))
	for range 3000 {
		seq, s := randomSequence(r), randomState(r)
		list, ok := impl.EffectOf(seq)
		if !ok {
			continue
		}
		behind, one := impl.InOrder(seq, s)
		at, two := impl.AtOnce(list, s)
		if !one || !two || behind[:len(placeLetters)] != at[:len(placeLetters)] {
			t.Errorf("%v: InOrder(%q) = %q, but AtOnce(%q) = %q", seq, s, behind, list, at)
		}
	}
}

func TestMostSteps(t *testing.T) {
	for _, step := range []impl.Step{take("a", "b"), take("t", "9"), swap("a", "b"), swap("u", "u"), swap("t", "C")} {
		checkSequence(t, repeated(step, 59), someState)
		checkSequence(t, repeated(step, 60), someState)
		checkSequenceRefused(t, repeated(step, 61))
		text := strings.Repeat(";"+stepModel{step}.format(), 61)[1:]
		if seq, ok := impl.ParseSequence(text); len(seq) != 0 || ok {
			t.Errorf("ParseSequence of 61 steps = %v, %v", seq, ok)
		}
		if seq, ok := impl.ParseSequence(text[4:]); len(seq) != 60 || !ok {
			t.Errorf("ParseSequence of 60 steps = %v, %v", seq, ok)
		}
	}
}

func TestSequencesThatAreNotValid(t *testing.T) {
	for _, seq := range invalidSequences() {
		checkSequenceRefused(t, seq)
	}
}

func TestParseSequenceRefusesOtherTexts(t *testing.T) {
	texts := []string{
		"", "--", "-;-", "a=b;-", "-;a=b", "- ", " -", "-\n", "=", "~", ";", ";;", "a", "a=", "a~", "=a", "~a", "a=b;", ";a=b", "a=b;;c=d",
		"a=b,b=a", "a~b,b~a", "a=b b=a", "a = b", "a=b; b=a", "a:b", "a==b", "a~~b", "a=~b", "a~=b", "a=b=c", "a~b~c", "a=b~c", "a~b=c", "a=b=", "=a=b", "~a=b", "a=b~",
		"ab=c", "a=bc", "ab~c", "a~bc", "a=tu", "tu=a", "a=10", "a=-1", "a=01", "1=a", "1=1", "a~1", "1~a", "1~1", "t~0", "x=a", "a=x", "v~a", "a=b\n", "a=b\x00", "a=é", "a=\xff",
		strings.Repeat("a=b;", 1000), strings.Repeat("a", 1000), strings.Repeat(";", 1000), strings.Repeat("a=b;", 30),
	}
	for _, text := range texts {
		if seq, ok := impl.ParseSequence(text); len(seq) != 0 || ok {
			t.Errorf("ParseSequence(%q) = %v, %v", text, seq, ok)
		}
	}
	for to := range 256 {
		for from := range 256 {
			checkTextOfStep(t, take(string([]byte{byte(to)}), string([]byte{byte(from)})), "=")
			checkTextOfStep(t, swap(string([]byte{byte(to)}), string([]byte{byte(from)})), "~")
		}
	}
	for sign := range 256 {
		text := "a" + string([]byte{byte(sign)}) + "b"
		if _, ok := impl.ParseSequence(text); ok != (sign == '=' || sign == '~') {
			t.Errorf("ParseSequence(%q): %v", text, ok)
		}
	}
}

// checkTextOfStep checks that the text of a step is parsed if the step is valid, and refused otherwise.
func checkTextOfStep(t *testing.T, step impl.Step, sign string) {
	t.Helper()
	want := []impl.Step{step}
	if !stepModel(want).valid() {
		want = nil
	}
	got, ok := impl.ParseSequence(step.To + sign + step.From)
	if !slices.Equal(got, want) || ok != (want != nil) || impl.SequenceValid([]impl.Step{step}) != ok {
		t.Errorf("ParseSequence(%q) = %v, %v", step.To+sign+step.From, got, ok)
	}
}

func TestIsRight(t *testing.T) {
	tests := []struct {
		seq  []impl.Step
		list []impl.Move
		want bool
	}{
		{nil, nil, true},
		{nil, moves("a", "a", "C", "C"), true},
		{nil, moves("a", "b"), false},
		{steps("a=b"), nil, false},
		{steps("a~a", "t=1", "u~t"), nil, true},
		{steps("a=b", "c=1"), moves("c", "1", "d", "d", "a", "b"), true},
		{steps("a=b", "c=1"), moves("c", "2", "a", "b"), false},
		{steps("a=b", "b=a"), moves("a", "b", "b", "a"), false},
		{steps("a=b", "b=a"), moves("a", "b"), true},
		{steps("a=b", "b=a"), moves("a", "b", "b", "b"), true},
		{steps("a~b"), moves("b", "a", "a", "b"), true},
		{steps("a=7", "b=a"), moves("b", "7", "a", "7"), true},
		{steps("a=7", "b=a"), moves("b", "a", "a", "7"), false},
		// A value of a spare place is that of no place and no number, even if no move changes its place.
		{steps("a=t"), nil, false},
		{steps("a=t"), moves("a", "a"), false},
		{steps("a=u", "b=c"), moves("b", "c"), false},
		{steps("b~t"), moves("b", "a"), false},
		{steps("t=1", "b=t"), moves("b", "1"), true},
		// Lists that are no moves.
		{steps("a=t"), moves("a", "t"), false},
		{steps("t=a"), moves("t", "a"), false},
		{steps("a=b"), moves("a", "b", "a", "b"), false},
		{nil, moves("a", "x"), false},
		{nil, moves("", ""), false},
	}
	for _, test := range tests {
		if impl.IsRight(test.seq, test.list) != test.want {
			t.Errorf("IsRight(%v, %q) is not %v", test.seq, test.list, test.want)
		}
	}
	for _, list := range invalidLists() {
		if impl.IsRight(nil, list) || impl.IsRight(steps("a=b"), list) {
			t.Errorf("IsRight for %q", list)
		}
	}
}

func TestIsRightForMovesThatDifferInOne(t *testing.T) {
	r := rand.New(rand.NewSource(6))
	for range 3000 {
		seq := randomSequence(r)
		list, ok := stepModel(seq).effect()
		if !ok || len(list) == 0 {
			continue
		}
		other := slices.Clone(list)
		i := r.Intn(len(other))
		other[i].From = randomLetter(r, sourceLetters)
		slices.Reverse(other)
		if want := other[len(other)-1-i].From == list[i].From; impl.IsRight(seq, other) != want {
			t.Errorf("IsRight(%v, %q) is not %v", seq, other, want)
		}
	}
}

func TestSequencesShareNoMemory(t *testing.T) {
	for _, seq := range append(invalidSequences(), steps("a=b", "b~a", "t=1"), steps("t~u"), steps("a=u"), steps()) {
		room := append(slices.Clone(seq), steps("C=9", "B~t")...)
		list := append(moves("a", "b", "b", "1"), moves("C", "9")...)
		before, listBefore := slices.Clone(room), slices.Clone(list)
		short := room[:len(seq)]
		impl.SequenceValid(short)
		impl.FormatSequence(short)
		impl.InOrder(short, someState)
		impl.AtOnce(list[:2], someState)
		impl.TouchedBy(short)
		impl.IsRight(short, list[:2])
		one, _ := impl.EffectOf(short)
		two, _ := impl.EffectOf(short)
		want := slices.Clone(two)
		clear(one[:cap(one)])
		if !slices.Equal(room, before) || !slices.Equal(list, listBefore) {
			t.Errorf("%v: an argument was changed", seq)
		}
		if !slices.Equal(two, want) {
			t.Errorf("%v: two results share memory", seq)
		}
	}
	one, _ := impl.ParseSequence("a=b;b~a;t=1")
	two, _ := impl.ParseSequence("a=b;b~a;t=1")
	clear(one[:cap(one)])
	if impl.FormatSequence(two) != "a=b;b~a;t=1" {
		t.Errorf("two results share memory: %v", two)
	}
}
