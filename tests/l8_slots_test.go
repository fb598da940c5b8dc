package tests

import (
	"math/rand"
	"slices"
	"strings"
	"testing"

	"loop.example/parallelmoves/impl"
)

const (
	registerLetters = "abcdef"
	slotLetters     = "ABC"
)

// reads and writes return the names of what a step reads and writes, each as often as it does.
func reads(step impl.Step) string {
	if step.Kind == impl.StepSwap {
		return step.To + step.From
	}
	return step.From
}

func writes(step impl.Step) string {
	if step.Kind == impl.StepSwap {
		return step.From + step.To
	}
	return step.To
}

func slotsIn(names string) int {
	return strings.Count(names, "A") + strings.Count(names, "B") + strings.Count(names, "C")
}

func fromSlotToSlot(step impl.Step) bool {
	return step.Kind == impl.StepMove && slotsIn(step.To) == 1 && slotsIn(step.From) == 1
}

func swapsSlot(step impl.Step) bool {
	return step.Kind == impl.StepSwap && slotsIn(step.To+step.From) > 0
}

func (q stepModel) names() string {
	names := ""
	for _, step := range q {
		names += step.To + step.From
	}
	return names
}

func (q stepModel) direct() bool {
	return q.valid() && !slices.ContainsFunc(q, fromSlotToSlot) && !slices.ContainsFunc(q, swapsSlot)
}

func (q stepModel) madeDirect() (stepModel, bool) {
	made := stepModel{}
	for _, step := range q {
		if fromSlotToSlot(step) {
			made = append(made, take("u", step.From), take(step.To, "u"))
		} else {
			made = append(made, step)
		}
	}
	if !q.valid() || strings.Contains(q.names(), "u") || slices.ContainsFunc(q, swapsSlot) || len(made) > 60 {
		return nil, false
	}
	return made, true
}

func (q stepModel) slotTraffic() (int, int) {
	read, written := "", ""
	for _, step := range q {
		read += reads(step)
		written += writes(step)
	}
	return slotsIn(read), slotsIn(written)
}

// withFree replaces letters in the text of the steps, in which a letter stands as a name alone.
func (q stepModel) withFree(free string) (stepModel, bool) {
	for i, letter := range strings.Split(free, "") {
		if !oneOf(registerLetters, letter) || strings.Contains(free[:i], letter) || strings.Contains(q.names(), letter) {
			return nil, false
		}
	}
	if !q.valid() || len(free) > 2 {
		return nil, false
	}
	text := q.format()
	for i := range free {
		text = strings.ReplaceAll(text, "tu"[i:i+1], free[i:i+1])
	}
	return stepsOf(text), true
}

func (l model) freeRegisters() string {
	free := ""
	for _, p := range strings.Split(registerLetters, "") {
		if !strings.Contains(l.places(), p) {
			free += p
		}
	}
	return free
}

func isMade(got []impl.Step, ok bool, want stepModel, some bool) bool {
	return slices.Equal(got, want) && ok == some
}

// someFree are texts of free registers, most of which are none, or stand in most steps.
var someFree = []string{"", "a", "b", "e", "f", "ab", "ba", "ef", "fe", "ff", "aa", "abc", "def", "abcdef", "A", "C", "t", "u", "tu", "ut", "et", "ue", "eA", "Ce", "g", "x", "1", "e1", "0f", "=", "-", "e-", " ", "e ", " e", "e\n", "\x00", "e\x00", "\xff", "e\xff", "é", "eé", "e,f", "efe", "fef", strings.Repeat("e", 1000)}

// checkSlots checks the results of all functions of chapter 8 that take a sequence against the model.
func checkSlots(t *testing.T, seq []impl.Step) {
	t.Helper()
	want := stepModel(seq)
	text := want.format()
	if got := impl.IsDirect(seq); got != want.direct() {
		t.Errorf("%s: IsDirect = %v", text, got)
	}
	made, some := want.madeDirect()
	if got, ok := impl.MakeDirect(seq); !isMade(got, ok, made, some) {
		t.Errorf("%s: MakeDirect = %s, %v, not %s, %v", text, stepModel(got).format(), ok, made.format(), some)
	}
	checkMade(t, seq)
	read, written := want.slotTraffic()
	if r, w, ok := impl.SlotTraffic(seq); r != read || w != written || !ok {
		t.Errorf("%s: SlotTraffic = %d, %d, %v, not %d, %d", text, r, w, ok, read, written)
	}
	for _, free := range someFree {
		renamed, some := want.withFree(free)
		if got, ok := impl.WithFree(seq, free); !isMade(got, ok, renamed, some) {
			t.Errorf("%s: WithFree(%q) = %s, %v, not %s, %v", text, free, stepModel(got).format(), ok, renamed.format(), some)
		}
	}
}

// checkMade checks without the model of chapter 8 that steps that are made direct are so, and give all places and t the same values.
func checkMade(t *testing.T, seq []impl.Step) {
	t.Helper()
	made, ok := impl.MakeDirect(seq)
	if !ok {
		return
	}
	before, after := stepModel(seq).run(cellLetters), stepModel(made).run(cellLetters)
	if !impl.IsDirect(made) || before[:len(before)-1] != after[:len(after)-1] {
		t.Errorf("%v: MakeDirect = %v", seq, made)
	}
	read, written, _ := impl.SlotTraffic(seq)
	if r, w, ok := impl.SlotTraffic(made); r != read || w != written || !ok {
		t.Errorf("%v: SlotTraffic = %d, %d, but %d, %d of the direct steps", seq, read, written, r, w)
	}
}

// checkDirectMoves checks promise 8 for moves, by the model and by what the steps do.
func checkDirectMoves(t *testing.T, list []impl.Move) {
	t.Helper()
	want := model(list)
	text := want.format()
	seq, ok := impl.OrderDirect(list)
	made, some := stepModel(want.stepsInOrder()).madeDirect()
	if !isMade(seq, ok, made, some) || !some {
		t.Errorf("%s: OrderDirect = %s, %v, not %s", text, stepModel(seq).format(), ok, made.format())
	}
	if !does(seq, list) || !impl.IsRight(seq, list) || !impl.IsDirect(seq) {
		t.Errorf("%s: OrderDirect = %s", text, stepModel(seq).format())
	}
	if got := impl.CountDirect(list); got != len(made) {
		t.Errorf("%s: CountDirect = %d, not %d", text, got, len(made))
	}
	free := want.freeRegisters()
	if got, ok := impl.FreeRegisters(list); got != free || !ok {
		t.Errorf("%s: FreeRegisters = %q, %v, not %q", text, got, ok, free)
	}
	checkFreeRegisters(t, list, seq, free[:min(len(free), 2)])
}

// checkFreeRegisters checks that free registers do for the spare places, which no step has then if there are two of them.
// What a free register has in the end does not matter.
func checkFreeRegisters(t *testing.T, list []impl.Move, seq []impl.Step, free string) {
	t.Helper()
	got, ok := impl.WithFree(seq, free)
	if !ok || !impl.IsDirect(got) || len(got) != len(seq) {
		t.Errorf("%q: WithFree(%v, %q) = %v, %v", list, seq, free, got, ok)
	}
	if strings.ContainsAny(stepModel(got).names(), "tu"[:len(free)]) {
		t.Errorf("%q: WithFree(%v, %q) = %v", list, seq, free, got)
	}
	for _, p := range strings.Split(placeLetters, "") {
		if from := stepModel(got).origin(p); !strings.Contains(free, p) && from != model(list).source(p) {
			t.Errorf("%q: WithFree(%v, %q) = %v, by which %s gets %s", list, seq, free, got, p, from)
		}
	}
}

// checkSlotsRefused checks the results of all functions of chapter 8 for a list that is no sequence.
func checkSlotsRefused(t *testing.T, seq []impl.Step) {
	t.Helper()
	if impl.IsDirect(seq) {
		t.Errorf("%v: IsDirect", seq)
	}
	if got, ok := impl.MakeDirect(seq); len(got) != 0 || ok {
		t.Errorf("%v: MakeDirect = %v, %v", seq, got, ok)
	}
	if r, w, ok := impl.SlotTraffic(seq); r != 0 || w != 0 || ok {
		t.Errorf("%v: SlotTraffic = %d, %d, %v", seq, r, w, ok)
	}
	for _, free := range someFree {
		if got, ok := impl.WithFree(seq, free); len(got) != 0 || ok {
			t.Errorf("%v: WithFree(%q) = %v, %v", seq, free, got, ok)
		}
	}
}

// checkDirectMovesRefused checks the results of all functions of chapter 8 for a list that is no moves.
func checkDirectMovesRefused(t *testing.T, list []impl.Move) {
	t.Helper()
	if got, ok := impl.OrderDirect(list); len(got) != 0 || ok {
		t.Errorf("%q: OrderDirect = %v, %v", list, got, ok)
	}
	if got := impl.CountDirect(list); got != -1 {
		t.Errorf("%q: CountDirect = %d", list, got)
	}
	if got, ok := impl.FreeRegisters(list); got != "" || ok {
		t.Errorf("%q: FreeRegisters = %q, %v", list, got, ok)
	}
}

func TestSlotsOfTheDocument(t *testing.T) {
	list := movesOf("A=B,B=A")
	seq, ok := impl.OrderDirect(list)
	if !isSteps(seq, ok, steps("t=A", "u=B", "A=u", "B=t")) || impl.CountDirect(list) != 4 || !impl.IsDirect(seq) {
		t.Errorf("OrderDirect = %v, %v, CountDirect = %d", seq, ok, impl.CountDirect(list))
	}
	if r, w, ok := impl.SlotTraffic(seq); r != 2 || w != 2 || !ok {
		t.Errorf("SlotTraffic = %d, %d, %v", r, w, ok)
	}
	if got, ok := impl.FreeRegisters(list); got != "abcdef" || !ok {
		t.Errorf("FreeRegisters = %q, %v", got, ok)
	}
	if got, ok := impl.WithFree(seq, "ef"); !isSteps(got, ok, steps("e=A", "f=B", "A=f", "B=e")) {
		t.Errorf("WithFree = %v, %v", got, ok)
	}
	if impl.CountDirect(movesOf("b=a,a=b,c=a")) != 3 {
		t.Errorf("CountDirect = %d", impl.CountDirect(movesOf("b=a,a=b,c=a")))
	}
}

func TestIsSlot(t *testing.T) {
	for _, name := range append(slices.Clone(notCells), notPlaces...) {
		if impl.IsSlot(name) {
			t.Errorf("IsSlot(%q)", name)
		}
	}
	for one := range 256 {
		name := string([]byte{byte(one)})
		if got := impl.IsSlot(name); got != (one == 'A' || one == 'B' || one == 'C') {
			t.Errorf("IsSlot(%q) = %v", name, got)
		}
		for two := range 256 {
			if both := name + string([]byte{byte(two)}); impl.IsSlot(both) {
				t.Errorf("IsSlot(%q)", both)
			}
		}
	}
	for _, text := range []string{"ABC", "BCA", "A\n", " A", "A ", "A\x00", "AA", strings.Repeat("A", 1000)} {
		if impl.IsSlot(text) {
			t.Errorf("IsSlot(%q)", text)
		}
	}
}

func TestIsDirect(t *testing.T) {
	tests := []struct {
		seq  string
		want bool
	}{
		{"-", true},
		// Moves.
		{"a=b", true},
		{"A=b", true},
		{"a=B", true},
		{"t=C", true},
		{"C=u", true},
		{"A=7", true},
		{"a=7", true},
		{"a=a", true},
		{"A=B", false},
		{"C=A", false},
		{"A=A", false},
		{"C=C", false},
		// Swaps.
		{"a~b", true},
		{"a~a", true},
		{"t~u", true},
		{"a~t", true},
		{"A~b", false},
		{"b~A", false},
		{"A~t", false},
		{"u~C", false},
		{"A~B", false},
		{"B~B", false},
		// One among others.
		{"a=A;B=a", true},
		{"t=A;u=B;A=u;B=t", true},
		{"t=A;A=B;B=t", false},
		{"A=B;a=b", false},
		{"a=b;A=B", false},
		{"a=b;A=B;t~u", false},
		{"a~C;a=b", false},
		{"a=b;c=d;e~C", false},
	}
	for _, test := range tests {
		if got := impl.IsDirect(stepsOf(test.seq)); got != test.want {
			t.Errorf("%s: IsDirect = %v", test.seq, got)
		}
		checkSlots(t, stepsOf(test.seq))
	}
}

func TestMakeDirect(t *testing.T) {
	tests := []struct{ seq, want string }{
		// No steps, and steps that are direct.
		{"-", "-"},
		{"a=b", "a=b"},
		{"a=A", "a=A"},
		{"A=a", "A=a"},
		{"a=a", "a=a"},
		{"a~b", "a~b"},
		{"t~f", "t~f"},
		{"t~t", "t~t"},
		{"t=A;A=t", "t=A;A=t"},
		{"B=7;a=0", "B=7;a=0"},
		{"a=b;b=c;c=A;A=d;d~e", "a=b;b=c;c=A;A=d;d~e"},
		// Moves from slots to slots.
		{"A=B", "u=B;A=u"},
		{"B=A", "u=A;B=u"},
		{"C=A;A=B", "u=A;C=u;u=B;A=u"},
		{"A=B;a=B", "u=B;A=u;a=B"},
		{"a=B;A=B", "a=B;u=B;A=u"},
		{"A=B;A=B", "u=B;A=u;u=B;A=u"},
		{"t=A;A=B;B=C;C=t", "t=A;u=B;A=u;u=C;B=u;C=t"},
		{"a~b;C=B;b=1;B=b", "a~b;u=B;C=u;b=1;B=b"},
		// A slot to itself.
		{"A=A", "u=A;A=u"},
		{"C=C;B=B", "u=C;C=u;u=B;B=u"},
		{"a=a;B=B;a~a", "a=a;u=B;B=u;a~a"},
	}
	for _, test := range tests {
		seq := stepsOf(test.seq)
		if got, ok := impl.MakeDirect(seq); !isSteps(got, ok, stepsOf(test.want)) {
			t.Errorf("%s: MakeDirect = %s, %v", test.seq, stepModel(got).format(), ok)
		}
		checkSlots(t, seq)
	}
	texts := []string{
		// The spare place u is used already, if no step is from a slot to a slot too.
		"u=a", "a=u", "u=A", "A=u", "u=t", "u=7", "u=u", "t~u", "u~a", "a~u", "u~u", "u=B;A=u", "A=B;u=1", "u=1;A=B", "A=B;a=u;b=c", "A=B;c=d;e~u",
		// A slot is swapped.
		"A~B", "A~A", "a~A", "A~a", "t~C", "C~t", "B~u", "A=B;A~B", "A~B;A=B", "a=b;b~C;c=d", "a=b;c=d;B~B",
	}
	for _, text := range texts {
		if got, ok := impl.MakeDirect(stepsOf(text)); len(got) != 0 || ok {
			t.Errorf("%s: MakeDirect = %s, %v", text, stepModel(got).format(), ok)
		}
		checkSlots(t, stepsOf(text))
	}
}

// TestMostDirectSteps puts moves from slots to slots ahead of other steps, behind them and among them.
func TestMostDirectSteps(t *testing.T) {
	for slots := range 62 {
		for others := range 62 {
			ahead := append(repeated(take("A", "B"), slots), repeated(swap("a", "b"), others)...)
			behind := append(repeated(take("C", "1"), others), repeated(take("B", "B"), slots)...)
			among := slices.Insert(repeated(take("a", "C"), others), others/2, repeated(take("C", "A"), slots)...)
			for _, seq := range [][]impl.Step{ahead, behind, among} {
				want := 0
				if 2*slots+others <= 60 {
					want = 2*slots + others
				}
				if got, ok := impl.MakeDirect(seq); len(got) != want || ok != (2*slots+others <= 60) {
					t.Errorf("%d moves from slots to slots and %d other steps: MakeDirect = %v, %v", slots, others, got, ok)
				}
			}
		}
	}
	for _, n := range []int{29, 30, 31, 59, 60} {
		checkSlots(t, repeated(take("A", "B"), n))
		checkSlots(t, repeated(take("C", "C"), n))
		checkSlots(t, repeated(take("a", "C"), n))
		checkSlots(t, repeated(swap("A", "B"), n))
		checkSlots(t, repeated(swap("C", "C"), n))
	}
	checkSlotsRefused(t, repeated(take("a", "C"), 61))
	checkSlotsRefused(t, repeated(take("A", "B"), 61))
}

func TestOrderDirect(t *testing.T) {
	tests := []struct {
		list  string
		steps string
		free  string
	}{
		// No moves, and idle ones, also of slots.
		{"-", "-", "abcdef"},
		{"a=a", "-", "bcdef"},
		{"A=A", "-", "abcdef"},
		{"C=C,f=f,B=B", "-", "abcde"},
		{"A=A,B=A", "u=A;B=u", "abcdef"},
		// Registers alone.
		{"b=a", "b=a", "cdef"},
		{"a=b,b=a", "t=a;a=b;b=t", "cdef"},
		{"b=a,a=b,c=a", "c=a;a=b;b=c", "def"},
		// Digits.
		{"A=7", "A=7", "abcdef"},
		{"a=b,A=C,d=1", "a=b;d=1;u=C;A=u", "cef"},
		{"A=0,B=0,C=0", "A=0;B=0;C=0", "abcdef"},
		// Between slots and registers.
		{"a=A", "a=A", "bcdef"},
		{"f=C,C=f", "t=f;f=C;C=t", "abcde"},
		{"A=a,a=A,b=A", "b=A;A=a;a=b", "cdef"},
		{"A=a,B=a", "A=a;u=A;B=u", "bcdef"},
		{"A=B,a=A", "a=A;u=B;A=u", "bcdef"},
		{"A=B,a=B", "a=B;A=a", "bcdef"},
		// From slots to slots.
		{"A=B", "u=B;A=u", "abcdef"},
		{"A=C,B=C", "u=C;A=u;u=A;B=u", "abcdef"},
		{"C=B,B=A", "u=B;C=u;u=A;B=u", "abcdef"},
		// Closed rings of slots, and rings of slots with arms.
		{"B=A,A=B", "t=A;u=B;A=u;B=t", "abcdef"},
		{"A=C,C=A", "t=A;u=C;A=u;C=t", "abcdef"},
		{"A=B,B=C,C=A", "t=A;u=B;A=u;u=C;B=u;C=t", "abcdef"},
		{"C=B,B=A,A=C", "t=A;u=C;A=u;u=B;C=u;B=t", "abcdef"},
		{"A=B,B=A,C=A", "u=A;C=u;u=B;A=u;u=C;B=u", "abcdef"},
		{"A=B,B=A,f=B", "f=B;u=A;B=u;A=f", "abcde"},
		{"A=B,B=A,C=C", "t=A;u=B;A=u;B=t", "abcdef"},
		{"a=b,b=a,A=B,B=A", "t=a;a=b;b=t;t=A;u=B;A=u;B=t", "cdef"},
		// No register is free, one is, and two are.
		{"a=b,b=c,c=d,d=e,e=f,f=A,A=B,B=C,C=a", "t=a;a=b;b=c;c=d;d=e;e=f;f=A;u=B;A=u;u=C;B=u;C=t", ""},
		{"a=1,b=2,c=3,d=4,e=5,f=6,A=B,B=A", "a=1;b=2;c=3;d=4;e=5;f=6;t=A;u=B;A=u;B=t", ""},
		{"a=b,b=c,c=d,d=f,f=a,A=B,B=A", "t=a;a=b;b=c;c=d;d=f;f=t;t=A;u=B;A=u;B=t", "e"},
		{"b=b,f=c,e=1,A=B,B=A", "e=1;f=c;t=A;u=B;A=u;B=t", "ad"},
	}
	for _, test := range tests {
		list := movesOf(test.list)
		if got, ok := impl.OrderDirect(list); !isSteps(got, ok, stepsOf(test.steps)) {
			t.Errorf("%s: OrderDirect = %s, %v", test.list, stepModel(got).format(), ok)
		}
		if got := impl.CountDirect(list); got != len(stepsOf(test.steps)) {
			t.Errorf("%s: CountDirect = %d", test.list, got)
		}
		if got, ok := impl.FreeRegisters(list); got != test.free || !ok {
			t.Errorf("%s: FreeRegisters = %q, %v", test.list, got, ok)
		}
		checkDirectMoves(t, list)
	}
}

func TestFreeRegistersOfEachMove(t *testing.T) {
	for _, to := range strings.Split(placeLetters, "") {
		for _, from := range strings.Split(sourceLetters, "") {
			want := strings.NewReplacer(to, "", from, "").Replace(registerLetters)
			if got, ok := impl.FreeRegisters(moves(to, from)); got != want || !ok {
				t.Errorf("%s=%s: FreeRegisters = %q, %v", to, from, got, ok)
			}
		}
	}
}

func TestWithFree(t *testing.T) {
	const seq = "t=A;u=B;A=u;B=t"
	tests := []struct{ seq, free, want string }{
		// As far as there are some.
		{seq, "", seq},
		{seq, "f", "f=A;u=B;A=u;B=f"},
		{seq, "ef", "e=A;f=B;A=f;B=e"},
		{seq, "fe", "f=A;e=B;A=e;B=f"},
		{seq, "ad", "a=A;d=B;A=d;B=a"},
		// No steps.
		{"-", "", "-"},
		{"-", "a", "-"},
		{"-", "fb", "-"},
		// Steps that have one spare place, or none.
		{"t=a;a=b;b=t", "d", "d=a;a=b;b=d"},
		{"t=a;a=b;b=t", "dc", "d=a;a=b;b=d"},
		{"u=a;b=u", "d", "u=a;b=u"},
		{"u=a;b=u", "dc", "c=a;b=c"},
		{"u=a;b=u", "cd", "d=a;b=d"},
		{"a=b;C=7", "ef", "a=b;C=7"},
		// Both in one step, and the same one twice.
		{"t=u;u=t", "cd", "c=d;d=c"},
		{"t=u;u=t", "d", "d=u;u=d"},
		{"t=t;u=u", "ab", "a=a;b=b"},
		{"t=0;u=9", "ab", "a=0;b=9"},
		// Swaps.
		{"t~a;b~t", "c", "c~a;b~c"},
		{"t~u;u~t", "fa", "f~a;a~f"},
		{"t~t;u~u;t~u", "f", "f~f;u~u;f~u"},
		{"u~C;A~t;a~B", "bc", "c~C;A~b;a~B"},
		// A slot stands in place of no register.
		{"A=B;A~A;t=C", "ab", "A=B;A~A;a=C"},
	}
	for _, test := range tests {
		if got, ok := impl.WithFree(stepsOf(test.seq), test.free); !isSteps(got, ok, stepsOf(test.want)) {
			t.Errorf("%s: WithFree(%q) = %s, %v", test.seq, test.free, stepModel(got).format(), ok)
		}
		checkSlots(t, stepsOf(test.seq))
	}
}

func TestWithRegistersThatAreNotFree(t *testing.T) {
	tests := []struct{ seq, free string }{
		// More than two.
		{"t=A;A=t", "abc"},
		{"t=A;A=t", "aba"},
		{"-", "def"},
		{"-", "eee"},
		// One twice.
		{"t=A;u=B", "ee"},
		{"t=A;A=t", "ff"},
		{"-", "aa"},
		// One that is none of a to f.
		{"t=a", "A"},
		{"t=a", "bA"},
		{"t=a", "Ab"},
		{"t=a", "t"},
		{"u=a", "t"},
		{"a=b", "t"},
		{"a=b", "tu"},
		{"t=u", "tu"},
		{"-", "u"},
		{"-", "eu"},
		{"-", "g"},
		{"t=a", "bg"},
		{"t=a", "1"},
		{"t=1", "b2"},
		{"-", " "},
		{"-", "é"},
		{"-", "\xff"},
		{"-", "a\x00"},
		// One that stands in a step, at any place of it, also if there is no spare place for it.
		{"t=a", "a"},
		{"a=t", "a"},
		{"b=c;a=1", "a"},
		{"b=c;C=c", "c"},
		{"t~d", "d"},
		{"d~t", "d"},
		{"a=b", "b"},
		{"t=a", "ba"},
		{"t=a", "ab"},
		{"t=a;u=b", "cb"},
		{"t=a;b=t;c=d;e=f", "f"},
		{"f~f", "ef"},
		{"f~f", "fe"},
	}
	for _, test := range tests {
		if got, ok := impl.WithFree(stepsOf(test.seq), test.free); len(got) != 0 || ok {
			t.Errorf("%s: WithFree(%q) = %s, %v", test.seq, test.free, stepModel(got).format(), ok)
		}
		checkSlots(t, stepsOf(test.seq))
	}
}

// TestWithFreeOfAllTexts tries all texts of one and of two bytes.
func TestWithFreeOfAllTexts(t *testing.T) {
	seq := steps("t=a", "u=C", "a~t", "f=u")
	for one := range 256 {
		first := string([]byte{byte(one)})
		want, some := stepModel(seq).withFree(first)
		if got, ok := impl.WithFree(seq, first); !isMade(got, ok, want, some) || ok != oneOf("bcde", first) {
			t.Errorf("WithFree(%q) = %v, %v", first, got, ok)
		}
		for two := range 256 {
			second := string([]byte{byte(two)})
			want, some := stepModel(seq).withFree(first + second)
			if got, ok := impl.WithFree(seq, first+second); !isMade(got, ok, want, some) || ok != (oneOf("bcde", first) && oneOf("bcde", second) && one != two) {
				t.Errorf("WithFree(%q) = %v, %v", first+second, got, ok)
			}
		}
	}
}

func TestSlotTraffic(t *testing.T) {
	tests := []struct {
		seq    string
		reads  int
		writes int
	}{
		{"-", 0, 0},
		// Moves.
		{"a=b", 0, 0},
		{"t=u", 0, 0},
		{"a=7", 0, 0},
		{"a=A", 1, 0},
		{"u=C", 1, 0},
		{"A=a", 0, 1},
		{"B=t", 0, 1},
		{"C=7", 0, 1},
		{"A=B", 1, 1},
		{"A=A", 1, 1},
		// Swaps.
		{"a~b", 0, 0},
		{"t~u", 0, 0},
		{"a~A", 1, 1},
		{"A~a", 1, 1},
		{"t~C", 1, 1},
		{"A~B", 2, 2},
		{"A~A", 2, 2},
		{"C~C", 2, 2},
		// Several steps.
		{"a=A;B=a;A~B;C=1;a~C", 4, 5},
		{"a=A;b=A;c=A", 3, 0},
		{"A=a;A=b;A=1", 0, 3},
		{"t=A;A=B;B=t", 2, 2},
		{"t=A;u=B;A=u;B=t", 2, 2},
		{"A~A;a=b;C=C;b~B", 4, 4},
	}
	for _, test := range tests {
		if r, w, ok := impl.SlotTraffic(stepsOf(test.seq)); r != test.reads || w != test.writes || !ok {
			t.Errorf("%s: SlotTraffic = %d, %d, %v", test.seq, r, w, ok)
		}
		checkSlots(t, stepsOf(test.seq))
	}
	if r, w, ok := impl.SlotTraffic(repeated(swap("A", "B"), 60)); r != 120 || w != 120 || !ok {
		t.Errorf("SlotTraffic = %d, %d, %v", r, w, ok)
	}
	if r, w, ok := impl.SlotTraffic(repeated(take("a", "B"), 60)); r != 60 || w != 0 || !ok {
		t.Errorf("SlotTraffic = %d, %d, %v", r, w, ok)
	}
}

// TestSlotsOfAllSteps tries each step alone, and behind and ahead of a move from a slot to a slot.
func TestSlotsOfAllSteps(t *testing.T) {
	checkSlots(t, nil)
	for _, to := range strings.Split(cellLetters, "") {
		for _, from := range strings.Split(cellLetters+digitLetters, "") {
			checkSlots(t, []impl.Step{take(to, from)})
			checkSlots(t, []impl.Step{take(to, from), take("B", "C")})
			checkSlots(t, []impl.Step{take("B", "C"), take(to, from)})
			if oneOf(cellLetters, from) {
				checkSlots(t, []impl.Step{swap(to, from)})
				checkSlots(t, []impl.Step{swap(to, from), take("B", "C")})
				checkSlots(t, []impl.Step{take("B", "C"), swap(to, from)})
			}
		}
	}
}

// randomSlotSteps returns steps that can mostly be made direct: many moves from slots to slots, and swaps of registers.
func randomSlotSteps(r *rand.Rand) []impl.Step {
	seq := []impl.Step{}
	for range r.Intn(61) {
		switch r.Intn(4) {
		case 0:
			seq = append(seq, take(randomLetter(r, slotLetters), randomLetter(r, slotLetters)))
		case 1:
			seq = append(seq, swap(randomLetter(r, "abcdt"), randomLetter(r, "abcdt")))
		default:
			seq = append(seq, take(randomLetter(r, "abcdABCt"), randomLetter(r, "abcdABCt07")))
		}
	}
	return seq
}

func TestSlotsAgainstTheModel(t *testing.T) {
	r := rand.New(rand.NewSource(41))
	made := 0
	for range 3000 {
		checkSlots(t, randomSequence(r))
		seq := randomSlotSteps(r)
		checkSlots(t, seq)
		if _, ok := impl.MakeDirect(seq); ok {
			made++
		}
		if t.Failed() {
			return
		}
	}
	if made < 1000 || made > 2900 {
		t.Errorf("%d sequences could be made direct", made)
	}
}

func TestDirectStepsOfAllMovesOfThreePlaces(t *testing.T) {
	for _, sorted := range allMovesOf("bAB", "bAB5") {
		for _, list := range ordersOf(sorted) {
			checkDirectMoves(t, list)
		}
		if t.Failed() {
			return
		}
	}
}

func TestDirectStepsOfAllMovesOfFourPlaces(t *testing.T) {
	for _, list := range allMovesOf("fABC", "fABC3") {
		checkDirectMoves(t, list)
		if t.Failed() {
			return
		}
	}
}

func TestDirectStepsAgainstTheModel(t *testing.T) {
	checkDirectMoves(t, nil)
	r := rand.New(rand.NewSource(42))
	for range 3000 {
		checkDirectMoves(t, randomMoves(r))
		checkDirectMoves(t, randomMovesOf(r, "acABC"))
		if t.Failed() {
			return
		}
	}
}

// TestDirectStepsOfRingsWithArms has rings through slots and registers of all lengths.
func TestDirectStepsOfRingsWithArms(t *testing.T) {
	r := rand.New(rand.NewSource(43))
	for _, lengths := range partitions(len(placeLetters), len(placeLetters)) {
		for arms := range 5 {
			for range 5 {
				list := exchangeWith(r, lengths)
				for i := range list[:arms] {
					list[i].From = randomLetter(r, placeLetters)
				}
				checkDirectMoves(t, list)
			}
		}
		if t.Failed() {
			return
		}
	}
}

func TestSlotsOfSequencesThatAreNotValid(t *testing.T) {
	for _, seq := range invalidSequences() {
		checkSlotsRefused(t, seq)
	}
	// Steps that would be direct, or could be made so, if they were valid.
	for _, step := range []impl.Step{take("A", "D"), take("D", "A"), take("1", "A"), swap("a", "1"), swap("1", "a"), take("AB", "C"), take("A", "BC"), {Kind: 2, Move: impl.Move{To: "A", From: "B"}}, {Kind: -1, Move: impl.Move{To: "a", From: "b"}}} {
		checkSlotsRefused(t, []impl.Step{step})
		checkSlotsRefused(t, []impl.Step{take("A", "B"), step})
	}
}

func TestDirectStepsOfListsThatAreNoMoves(t *testing.T) {
	for _, list := range invalidLists() {
		checkDirectMovesRefused(t, list)
	}
	for _, text := range []string{"t=a", "a=t", "u=A", "A=u", "t=u,u=t", "A=B,B=A,A=C", "A=B,A=B", "A=A,A=A", "A=D", "D=A"} {
		checkDirectMovesRefused(t, movesOf(text))
	}
	checkDirectMovesRefused(t, slices.Repeat(moves("A", "B"), 1000))
}

// checkOwnSteps checks that results share no memory with steps nor with each other, and that no call changes steps or what is behind them.
func checkOwnSteps(t *testing.T, seq []impl.Step, calls map[string]func([]impl.Step) ([]impl.Step, bool)) {
	t.Helper()
	room := append(slices.Clone(seq), steps("C=9", "B~t", "a=A")...)
	before, short := slices.Clone(room), room[:len(seq)]
	for name, call := range calls {
		one, _ := call(short)
		two, _ := call(short)
		want := slices.Clone(two)
		clear(one[:cap(one)])
		if !slices.Equal(two, want) || !slices.Equal(room, before) {
			t.Errorf("%v: a result of %s shares memory", seq, name)
		}
	}
	impl.IsDirect(short)
	impl.SlotTraffic(short)
	if !slices.Equal(room, before) {
		t.Errorf("%v: an argument was changed", seq)
	}
}

func TestSlotsShareNoMemory(t *testing.T) {
	calls := map[string]func([]impl.Step) ([]impl.Step, bool){"MakeDirect": impl.MakeDirect}
	for _, free := range []string{"", "e", "ef", "ee", "x"} {
		calls["WithFree "+free] = func(seq []impl.Step) ([]impl.Step, bool) { return impl.WithFree(seq, free) }
	}
	for _, seq := range append(invalidSequences(), steps("a=b", "c~a", "t=1"), steps("A=B", "C=A", "a=C"), steps("t=A", "u=B", "A=u", "B=t"), steps("A~A"), steps()) {
		checkOwnSteps(t, seq, calls)
	}
	lists := append(invalidLists(), movesOf("A=B,B=A"), movesOf("B=C,a=B,C=A,A=a"), movesOf("b=a,A=B,c=1"), movesOf("A=A"), movesOf("-"))
	for _, list := range lists {
		checkOwnMemory(t, list, map[string]func([]impl.Move) ([]impl.Step, bool){"OrderDirect": impl.OrderDirect})
		short, room := roomBehind(list)
		before := slices.Clone(room)
		impl.CountDirect(short)
		impl.FreeRegisters(short)
		if !slices.Equal(room, before) {
			t.Errorf("%q: an argument was changed", list)
		}
	}
}
