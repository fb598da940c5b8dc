package tests

import (
	"math/rand"
	"slices"
	"strings"
	"testing"

	"loop.example/parallelmoves/impl"
)

// notWanted are texts that tell no wanted places.
var notWanted = []string{
	// A place twice, and places out of order.
	"aa", "CC", "aab", "abb", "aba", "aAA", "abcdefABCC", "aabcdefABC", "abcdefABCa", strings.Repeat("a", 1000), strings.Repeat("abcdefABC", 100),
	"ba", "Aa", "BA", "CBA", "ABCabcdef", "abcdefACB", "bacdefABC", "acb", "abAf",
	// Spare places, digits and other bytes.
	"t", "u", "tu", "at", "ta", "Cu", "uC", "atu", "abcdefABCt", "abcdefABCtu", "tabcdefABC", "abcdeftABC",
	"0", "9", "1a", "a1", "ab7", "7ab", "a1b", "abcdefABC0",
	"g", "D", "x", "T", "ag", "ga", "CD", "abcdefgABC", "-", "=", "a=b", "a,b", "a b", " ", " a", "a ", "\n", "a\n", "\x00", "a\x00", "\x00a", "\xff", "a\xff", "\xffa", "é", "aé", "٣",
}

// wantedTexts returns all texts that tell wanted places.
func wantedTexts() []string {
	texts := []string{""}
	for _, p := range strings.Split(placeLetters, "") {
		for _, text := range texts {
			texts = append(texts, text+p)
		}
	}
	return texts
}

// randomWanted tells few places, or many, or all.
func randomWanted(r *rand.Rand) string {
	often, text := 1+r.Intn(4), ""
	for _, p := range strings.Split(placeLetters, "") {
		if r.Intn(4) < often {
			text += p
		}
	}
	return text
}

func (l model) keep(wanted string) model {
	return slices.DeleteFunc(l.waiting(), func(m impl.Move) bool { return !strings.Contains(wanted, m.To) })
}

func (l model) needed(wanted string) string {
	text := ""
	for _, p := range strings.Split(placeLetters, "") {
		if strings.ContainsAny(wanted, l.readers(p)) || strings.Contains(wanted, p) && l.source(p) == p {
			text += p
		}
	}
	return text
}

// spareFor returns the empty string if there is none.
func (l model) spareFor(wanted string) string {
	for _, p := range strings.Split(placeLetters, "") {
		if !strings.Contains(wanted+l.needed(wanted), p) {
			return p
		}
	}
	return ""
}

// orderWanted replaces letters in the text of the steps, in which t stands as a name alone.
func (l model) orderWanted(wanted string) stepModel {
	text := stepModel(l.keep(wanted).stepsInOrder()).format()
	if place := l.spareFor(wanted); place != "" {
		text = strings.ReplaceAll(text, "t", place)
	}
	return stepsOf(text)
}

func (q stepModel) rightFor(l model, wanted string) bool {
	for i := range wanted {
		if q.origin(wanted[i:i+1]) != l.source(wanted[i:i+1]) {
			return false
		}
	}
	return true
}

// neededAhead returns the places and spare places whose values the wanted ones have in the end.
// It does not go from step to step, and knows of no step whether it is kept.
func (q stepModel) neededAhead(wanted string) string {
	origins, text := "", ""
	for i := range wanted {
		origins += q.origin(wanted[i : i+1])
	}
	for _, name := range strings.Split(cellLetters, "") {
		if strings.Contains(origins, name) {
			text += name
		}
	}
	return text
}

// dropped asks of each step alone what is needed ahead of all that come behind it.
func (q stepModel) dropped(wanted string) stepModel {
	kept := stepModel{}
	for i, step := range q {
		if step.To != step.From && strings.ContainsAny(q[i+1:].neededAhead(wanted), writes(step)) {
			kept = append(kept, step)
		}
	}
	return kept
}

// checkWanted checks the results of all functions of chapter 9 that take moves, for moves and wanted places that are valid, against the model.
func checkWanted(t *testing.T, list []impl.Move, wanted string) {
	t.Helper()
	want := model(list)
	text := want.format()
	if got, ok := impl.KeepWanted(list, wanted); !isMoves(got, ok, want.keep(wanted)) {
		t.Errorf("%s: KeepWanted(%q) = %q, %v, not %q", text, wanted, got, ok, want.keep(wanted))
	}
	if got, ok := impl.NeededBy(list, wanted); got != want.needed(wanted) || !ok {
		t.Errorf("%s: NeededBy(%q) = %q, %v, not %q", text, wanted, got, ok, want.needed(wanted))
	}
	place := want.spareFor(wanted)
	if got, ok := impl.SpareFor(list, wanted); got != place || ok != (place != "") {
		t.Errorf("%s: SpareFor(%q) = %q, %v, not %q", text, wanted, got, ok, place)
	}
	seq, ok := impl.OrderWanted(list, wanted)
	if !isSteps(seq, ok, want.orderWanted(wanted)) {
		t.Errorf("%s: OrderWanted(%q) = %s, %v, not %s", text, wanted, stepModel(seq).format(), ok, want.orderWanted(wanted).format())
	}
	checkWantedSteps(t, seq, list, wanted)
}

// checkWantedSteps checks promise 9 for the steps of moves of which some places are wanted, by what the steps do and write to.
func checkWantedSteps(t *testing.T, seq []impl.Step, list []impl.Move, wanted string) {
	t.Helper()
	text := model(list).format() + " for " + wanted + " by " + stepModel(seq).format()
	if !stepModel(seq).rightFor(list, wanted) || !impl.IsRightFor(seq, list, wanted) {
		t.Errorf("%s: IsRightFor = %v", text, impl.IsRightFor(seq, list, wanted))
	}
	spare := "t"
	if place, ok := impl.SpareFor(list, wanted); ok {
		spare = place
	}
	needed, _ := impl.NeededBy(list, wanted)
	written := stepModel(seq).touched()
	if strings.Trim(written, wanted+spare) != "" || strings.ContainsAny(spare, wanted+needed) {
		t.Errorf("%s: the steps write to %q, the spare place is %q", text, written, spare)
	}
	kept, _ := impl.KeepWanted(list, wanted)
	if len(seq) != impl.CountInOrder(kept) || strings.Contains(written, spare) != impl.NeedsSpare(kept) {
		t.Errorf("%s: CountInOrder = %d, NeedsSpare = %v", text, impl.CountInOrder(kept), impl.NeedsSpare(kept))
	}
	// No step of these is needed by nobody.
	if got, ok := impl.DropSteps(seq, wanted); !isSteps(got, ok, seq) {
		t.Errorf("%s: DropSteps = %s, %v", text, stepModel(got).format(), ok)
	}
	checkAllSteps(t, list, wanted)
}

// checkAllSteps checks that, of the steps that do moves, those that are needed for the wanted places are enough for them.
func checkAllSteps(t *testing.T, list []impl.Move, wanted string) {
	t.Helper()
	all, _ := impl.OrderMoves(list)
	some, ok := impl.DropSteps(all, wanted)
	if !ok || !impl.IsRightFor(all, list, wanted) || !impl.IsRightFor(some, list, wanted) {
		t.Errorf("%q for %q: %s, or dropped %s, %v", list, wanted, stepModel(all).format(), stepModel(some).format(), ok)
	}
	needed, one := impl.NeededBy(list, wanted)
	if ahead, two := impl.NeededAhead(all, wanted); ahead != needed || !one || !two {
		t.Errorf("%q for %q: NeededBy = %q, but NeededAhead = %q", list, wanted, needed, ahead)
	}
}

// checkDrop checks the results of DropSteps and NeededAhead for steps and wanted places that are valid, by the model and by what the steps do.
func checkDrop(t *testing.T, seq []impl.Step, wanted string) {
	t.Helper()
	want := stepModel(seq)
	text := want.format()
	kept, ok := impl.DropSteps(seq, wanted)
	if !isSteps(kept, ok, want.dropped(wanted)) {
		t.Errorf("%s: DropSteps(%q) = %s, %v, not %s", text, wanted, stepModel(kept).format(), ok, want.dropped(wanted).format())
	}
	needed := want.neededAhead(wanted)
	if got, ok := impl.NeededAhead(seq, wanted); got != needed || !ok {
		t.Errorf("%s: NeededAhead(%q) = %q, %v, not %q", text, wanted, got, ok, needed)
	}
	for i := range wanted {
		if p := wanted[i : i+1]; stepModel(kept).origin(p) != want.origin(p) {
			t.Errorf("%s: behind DropSteps(%q) = %s, %s has the value of %s", text, wanted, stepModel(kept).format(), p, stepModel(kept).origin(p))
		}
	}
	if again, ok := impl.DropSteps(kept, wanted); !isSteps(again, ok, kept) {
		t.Errorf("%s: DropSteps(%q) = %s, and again %s, %v", text, wanted, stepModel(kept).format(), stepModel(again).format(), ok)
	}
	if got, ok := impl.NeededAhead(kept, wanted); got != needed || !ok {
		t.Errorf("%s: NeededAhead(%q) = %q, %v, but %q without the steps that are dropped", text, wanted, needed, ok, got)
	}
}

// checkRightFor checks IsRightFor for steps, moves and wanted places that are valid against the model, and against IsRight if all are wanted.
func checkRightFor(t *testing.T, seq []impl.Step, list []impl.Move, wanted string) {
	t.Helper()
	if got := impl.IsRightFor(seq, list, wanted); got != stepModel(seq).rightFor(list, wanted) {
		t.Errorf("IsRightFor(%s, %s, %q) = %v", stepModel(seq).format(), model(list).format(), wanted, got)
	}
	if got := impl.IsRightFor(seq, list, placeLetters); got != impl.IsRight(seq, list) {
		t.Errorf("IsRightFor(%s, %s, %q) = %v", stepModel(seq).format(), model(list).format(), placeLetters, got)
	}
}

// checkWantedRefused checks the results of all functions of chapter 9 that take moves, if these or the wanted text are not valid.
func checkWantedRefused(t *testing.T, list []impl.Move, wanted string) {
	t.Helper()
	if got, ok := impl.KeepWanted(list, wanted); len(got) != 0 || ok {
		t.Errorf("%q: KeepWanted(%q) = %q, %v", list, wanted, got, ok)
	}
	if got, ok := impl.NeededBy(list, wanted); got != "" || ok {
		t.Errorf("%q: NeededBy(%q) = %q, %v", list, wanted, got, ok)
	}
	if got, ok := impl.SpareFor(list, wanted); got != "" || ok {
		t.Errorf("%q: SpareFor(%q) = %q, %v", list, wanted, got, ok)
	}
	if got, ok := impl.OrderWanted(list, wanted); len(got) != 0 || ok {
		t.Errorf("%q: OrderWanted(%q) = %v, %v", list, wanted, got, ok)
	}
	for _, seq := range [][]impl.Step{nil, oneByOne(list), steps("a=b"), steps("t=a", "a=b", "b=t")} {
		if impl.IsRightFor(seq, list, wanted) {
			t.Errorf("IsRightFor(%v, %q, %q)", seq, list, wanted)
		}
	}
}

// checkDropRefused checks the results of all functions of chapter 9 that take steps, if these or the wanted text are not valid.
func checkDropRefused(t *testing.T, seq []impl.Step, wanted string) {
	t.Helper()
	if got, ok := impl.DropSteps(seq, wanted); len(got) != 0 || ok {
		t.Errorf("%v: DropSteps(%q) = %v, %v", seq, wanted, got, ok)
	}
	if got, ok := impl.NeededAhead(seq, wanted); got != "" || ok {
		t.Errorf("%v: NeededAhead(%q) = %q, %v", seq, wanted, got, ok)
	}
	for _, list := range [][]impl.Move{nil, movesOf("a=b"), movesOf("a=b,b=a")} {
		if impl.IsRightFor(seq, list, wanted) {
			t.Errorf("IsRightFor(%v, %q, %q)", seq, list, wanted)
		}
	}
}

func TestWantedOfTheDocument(t *testing.T) {
	list := movesOf("a=b,b=a,c=a")
	seq, ok := impl.OrderWanted(list, "ac")
	if !isSteps(seq, ok, steps("c=a", "a=b")) || !impl.IsRightFor(seq, list, "ac") || impl.IsRightFor(seq, list, "abc") {
		t.Errorf("OrderWanted = %v, %v", seq, ok)
	}
	if !impl.WantedValid("ac") || impl.WantedValid("ca") {
		t.Error("WantedValid")
	}
}

func TestWantedValid(t *testing.T) {
	valid := map[string]bool{}
	for _, text := range wantedTexts() {
		valid[text] = true
		if !impl.WantedValid(text) {
			t.Errorf("WantedValid(%q) = false", text)
		}
	}
	if len(valid) != 512 {
		t.Fatalf("%d texts of wanted places", len(valid))
	}
	for _, text := range notWanted {
		if impl.WantedValid(text) {
			t.Errorf("WantedValid(%q)", text)
		}
	}
	for one := range 256 {
		for two := range 256 {
			first, second := string([]byte{byte(one)}), string([]byte{byte(two)})
			for _, text := range []string{first, first + second, first + second + "C", "a" + first + second} {
				if got := impl.WantedValid(text); got != valid[text] {
					t.Errorf("WantedValid(%q) = %v", text, got)
				}
			}
		}
	}
}

func TestWantedOfMoves(t *testing.T) {
	tests := []struct {
		list   string
		wanted string
		kept   string
		needed string
		spare  string // empty if there is none
		steps  string
	}{
		// No moves, and no places wanted.
		{"-", "", "-", "", "a", "-"},
		{"-", "a", "-", "a", "b", "-"},
		{"-", "bC", "-", "bC", "a", "-"},
		{"-", "abcdefABC", "-", "abcdefABC", "", "-"},
		{"a=b,b=a,c=a", "", "-", "", "a", "-"},
		{"a=7", "", "-", "", "a", "-"},
		{"a=a", "", "-", "", "a", "-"},
		// Some places, and all.
		{"a=b,b=a,c=a", "ac", "a=b,c=a", "ab", "d", "c=a;a=b"},
		{"a=b,b=a,c=a", "bc", "b=a,c=a", "a", "d", "b=a;c=b"},
		{"a=b,b=a,c=a", "abc", "a=b,b=a,c=a", "ab", "d", "c=a;a=b;b=c"},
		{"a=b,b=a,c=a", "d", "-", "d", "a", "-"},
		{"c=a,b=a,a=b", "abc", "a=b,b=a,c=a", "ab", "d", "c=a;a=b;b=c"},
		{"C=f,B=e,A=d", "AC", "A=d,C=f", "df", "a", "A=d;C=f"},
		{"a=b,b=a,c=a", "abcdefABC", "a=b,b=a,c=a", "abdefABC", "", "c=a;a=b;b=c"},
		// A ring of which a part is wanted.
		{"a=b,b=a", "a", "a=b", "b", "c", "a=b"},
		{"a=b,b=a", "b", "b=a", "a", "c", "b=a"},
		{"a=b,b=a", "ab", "a=b,b=a", "ab", "c", "c=a;a=b;b=c"},
		{"a=b,b=c,c=a", "b", "b=c", "c", "a", "b=c"},
		{"a=b,b=c,c=a", "ab", "a=b,b=c", "bc", "d", "a=b;b=c"},
		{"a=b,b=c,c=a", "ac", "a=b,c=a", "ab", "d", "c=a;a=b"},
		{"a=b,b=c,c=a", "bc", "b=c,c=a", "ac", "d", "b=c;c=a"},
		{"a=b,b=a,A=B,B=A", "AB", "A=B,B=A", "AB", "a", "a=A;A=B;B=a"},
		{"a=b,b=a,A=B,B=A", "aAB", "a=b,A=B,B=A", "bAB", "c", "a=b;c=A;A=B;B=c"},
		{"a=b,b=a,c=d,d=c", "abcd", "a=b,b=a,c=d,d=c", "abcd", "e", "e=a;a=b;b=e;e=c;c=d;d=e"},
		// The only reader of a ring is not wanted, so that the ring is closed.
		{"a=b,b=a,f=a", "ab", "a=b,b=a", "ab", "c", "c=a;a=b;b=c"},
		{"a=b,b=a,f=a", "abf", "a=b,b=a,f=a", "ab", "c", "f=a;a=b;b=f"},
		// Wanted places that are read by other wanted ones.
		{"b=a,c=b", "bc", "b=a,c=b", "ab", "d", "c=b;b=a"},
		{"b=a,c=b", "c", "c=b", "b", "a", "c=b"},
		{"b=a,c=b,d=c", "bd", "b=a,d=c", "ac", "e", "b=a;d=c"},
		{"b=a,c=a", "abc", "b=a,c=a", "a", "d", "b=a;c=b"},
		// Idle moves.
		{"a=a", "a", "-", "a", "b", "-"},
		{"a=a,b=a", "ab", "b=a", "a", "c", "b=a"},
		{"a=a,b=a", "b", "b=a", "a", "c", "b=a"},
		{"C=C,B=B,a=C", "aBC", "a=C", "BC", "b", "a=C"},
		// Digits, which nobody has to keep.
		{"a=7", "a", "a=7", "", "b", "a=7"},
		{"b=0", "b", "b=0", "", "a", "b=0"},
		{"a=7,b=a", "b", "b=a", "a", "c", "b=a"},
		{"a=7,b=a", "ab", "a=7,b=a", "a", "c", "b=a;a=7"},
		{"a=1,b=2,c=3", "ac", "a=1,c=3", "", "b", "a=1;c=3"},
		{"a=5,b=5", "ab", "a=5,b=5", "", "c", "a=5;b=5"},
		{"a=1,b=2,c=3,d=4,e=5,f=6,A=7,B=8,C=9", "abcdefABC", "a=1,b=2,c=3,d=4,e=5,f=6,A=7,B=8,C=9", "", "", "a=1;b=2;c=3;d=4;e=5;f=6;A=7;B=8;C=9"},
		// The spare place between others, and the first and the last one of all.
		{"a=d,d=a", "ad", "a=d,d=a", "ad", "b", "b=a;a=d;d=b"},
		{"b=c,c=b", "bcdefABC", "b=c,c=b", "bcdefABC", "a", "a=b;b=c;c=a"},
		{"a=b,b=a,c=1,d=2,e=3,f=4", "abcdef", "a=b,b=a,c=1,d=2,e=3,f=4", "ab", "A", "c=1;d=2;e=3;f=4;A=a;a=b;b=A"},
		{"a=b,b=a,c=A,d=B", "abcdef", "a=b,b=a,c=A,d=B", "abefAB", "C", "c=A;d=B;C=a;a=b;b=C"},
		{"a=b,b=a", "abcdefAB", "a=b,b=a", "abcdefAB", "C", "C=a;a=b;b=C"},
		// All nine places are wanted or needed.
		{"a=b,b=a", "abcdefABC", "a=b,b=a", "abcdefABC", "", "t=a;a=b;b=t"},
		{"a=b,b=a,c=A,d=B,e=C", "abcdef", "a=b,b=a,c=A,d=B,e=C", "abfABC", "", "c=A;d=B;e=C;t=a;a=b;b=t"},
		{"A=B,B=A,a=c,b=d,C=e,f=f", "abfABC", "a=c,b=d,A=B,B=A,C=e", "cdefAB", "", "a=c;b=d;C=e;t=A;A=B;B=t"},
		{"a=b,b=a,A=B,B=A", "abcdefABC", "a=b,b=a,A=B,B=A", "abcdefABC", "", "t=a;a=b;b=t;t=A;A=B;B=t"},
		{"a=b,b=c,c=d,d=e,e=f,f=A,A=B,B=C,C=a", "abcdefABC", "a=b,b=c,c=d,d=e,e=f,f=A,A=B,B=C,C=a", "abcdefABC", "", "t=a;a=b;b=c;c=d;d=e;e=f;f=A;A=B;B=C;C=t"},
		{"a=b,b=c,c=d,d=e,e=f,f=A,A=B,B=C,C=a", "abcdefAB", "a=b,b=c,c=d,d=e,e=f,f=A,A=B,B=C", "bcdefABC", "", "a=b;b=c;c=d;d=e;e=f;f=A;A=B;B=C"},
	}
	for _, test := range tests {
		list := movesOf(test.list)
		if got, ok := impl.KeepWanted(list, test.wanted); !isMoves(got, ok, movesOf(test.kept)) {
			t.Errorf("%s: KeepWanted(%q) = %q, %v", test.list, test.wanted, got, ok)
		}
		if got, ok := impl.NeededBy(list, test.wanted); got != test.needed || !ok {
			t.Errorf("%s: NeededBy(%q) = %q, %v", test.list, test.wanted, got, ok)
		}
		if got, ok := impl.SpareFor(list, test.wanted); got != test.spare || ok != (test.spare != "") {
			t.Errorf("%s: SpareFor(%q) = %q, %v", test.list, test.wanted, got, ok)
		}
		if got, ok := impl.OrderWanted(list, test.wanted); !isSteps(got, ok, stepsOf(test.steps)) {
			t.Errorf("%s: OrderWanted(%q) = %s, %v", test.list, test.wanted, stepModel(got).format(), ok)
		}
		for _, wanted := range wantedTexts() {
			checkWanted(t, list, wanted)
		}
	}
}

func TestIsRightFor(t *testing.T) {
	tests := []struct {
		seq    string
		list   string
		wanted string
		want   bool
	}{
		// No steps, no moves and no places.
		{"-", "-", "", true},
		{"-", "-", "abcdefABC", true},
		{"-", "a=b", "", true},
		{"-", "a=b", "a", false},
		{"-", "a=b", "b", true},
		{"-", "a=a", "a", true},
		{"a=b", "-", "a", false},
		{"a=b", "-", "bcdefABC", true},
		// What others have does not matter.
		{"a=b", "a=b,b=a", "a", true},
		{"a=b", "a=b,b=a", "b", false},
		{"a=b", "a=b,b=a", "ab", false},
		{"a=b", "a=b,b=a", "", true},
		{"a=b", "a=b,b=a", "ac", true},
		{"a=b;c=1", "a=b,b=a", "ac", false},
		{"t=a;a=b;b=t", "a=b,b=a", "ab", true},
		{"t=a;a=b;b=t", "a=b,b=a", "abcdefABC", true},
		{"c=a;a=b;b=c", "a=b,b=a", "ab", true},
		{"c=a;a=b;b=c", "a=b,b=a", "abc", false},
		{"a=b;b=a", "a=b,b=a", "ab", false},
		{"a~b", "a=b,b=a", "abcdefABC", true},
		{"a~b;a~b", "-", "abcdefABC", true},
		{"C=B", "C=A", "C", false},
		{"C=B", "C=A", "abcdefAB", true},
		// Idle steps and idle moves.
		{"a=a;b~b", "-", "ab", true},
		{"a=a;t~t", "a=a,b=b", "abcdefABC", true},
		// Numbers.
		{"a=7", "a=7", "a", true},
		{"a=7", "a=8", "a", false},
		{"a=7", "a=8", "b", true},
		{"a=7", "-", "a", false},
		{"a=7", "-", "b", true},
		{"a=7;b=a", "a=7,b=7", "ab", true},
		{"a=7;b=a", "a=7,b=a", "b", false},
		{"a=7;b=a", "a=7,b=a", "a", true},
		{"b=a;a=7", "a=7,b=a", "ab", true},
		// Values of spare places, which are those of no place and no number.
		{"a=t", "-", "a", false},
		{"a=t", "a=b", "a", false},
		{"a=t", "-", "b", true},
		{"a=t", "-", "", true},
		{"b=u;a=b", "a=b", "a", false},
		{"a~u", "-", "a", false},
		{"a~u;a~u", "-", "a", true},
		{"t=1;a=t", "a=1", "a", true},
		{"t=1;u=2;t~u", "-", "abcdefABC", true},
	}
	for _, test := range tests {
		seq, list := stepsOf(test.seq), movesOf(test.list)
		if got := impl.IsRightFor(seq, list, test.wanted); got != test.want {
			t.Errorf("IsRightFor(%s, %s, %q) = %v", test.seq, test.list, test.wanted, got)
		}
		for _, wanted := range wantedTexts() {
			checkRightFor(t, seq, list, wanted)
		}
	}
}

func TestDropSteps(t *testing.T) {
	tests := []struct {
		seq    string
		wanted string
		kept   string
		needed string
	}{
		// No steps, and no places wanted.
		{"-", "", "-", ""},
		{"-", "aC", "-", "aC"},
		{"-", "abcdefABC", "-", "abcdefABC"},
		{"a=b", "", "-", ""},
		{"a~b;t=7;c=t", "", "-", ""},
		// Moves.
		{"a=b", "a", "a=b", "b"},
		{"a=b", "b", "-", "b"},
		{"a=b", "ab", "a=b", "b"},
		{"a=b", "c", "-", "c"},
		{"C=a", "abC", "C=a", "ab"},
		{"a=b;b=c", "a", "a=b", "b"},
		{"a=b;b=c", "b", "b=c", "c"},
		{"a=b;b=c", "ab", "a=b;b=c", "bc"},
		{"a=b;c=a;d=c", "d", "a=b;c=a;d=c", "b"},
		{"a=b;c=a;d=c", "a", "a=b", "b"},
		{"a=b;b=a", "a", "a=b", "b"},
		{"a=b;b=a", "b", "a=b;b=a", "b"},
		// Values that are written over before anybody reads them.
		{"a=b;a=c", "a", "a=c", "c"},
		{"a=b;a=b", "a", "a=b", "b"},
		{"a=b;a=1;c=a", "c", "a=1;c=a", ""},
		{"a=b;d=a;a=1;c=a", "cd", "a=b;d=a;a=1;c=a", "b"},
		// Digits, which are needed nowhere.
		{"a=7", "a", "a=7", ""},
		{"a=7", "ab", "a=7", "b"},
		{"a=7", "b", "-", "b"},
		{"a=7;b=a", "a", "a=7", ""},
		{"a=7;b=a", "b", "a=7;b=a", ""},
		{"b=a;a=7", "b", "b=a", "a"},
		{"b=a;a=7", "ab", "b=a;a=7", "a"},
		{"t=0;a=t;b=t", "ab", "t=0;a=t;b=t", ""},
		{"a=b;a=9", "a", "a=9", ""},
		// Places to themselves.
		{"a=a", "a", "-", "a"},
		{"a=a", "b", "-", "b"},
		{"t=t;a=t", "a", "a=t", "t"},
		{"b=a;b=b;c=b", "c", "b=a;c=b", "a"},
		// Places with themselves.
		{"a~a", "a", "-", "a"},
		{"a~a", "ab", "-", "ab"},
		{"u~u", "", "-", ""},
		{"a=b;a~a", "a", "a=b", "b"},
		{"a~a;t~t;b=t;t=a", "b", "b=t", "t"},
		// Swaps.
		{"a~b", "a", "a~b", "b"},
		{"a~b", "b", "a~b", "a"},
		{"a~b", "ab", "a~b", "ab"},
		{"a~b", "abc", "a~b", "abc"},
		{"a~b", "c", "-", "c"},
		{"b~a", "aB", "b~a", "bB"},
		{"a~b;b~c", "a", "a~b", "b"},
		{"a~b;b~c", "b", "b~c", "c"},
		{"a~b;b~c", "c", "a~b;b~c", "a"},
		{"a~b;b~c", "ac", "a~b;b~c", "ab"},
		{"a~b;a~b", "a", "a~b;a~b", "a"},
		{"a~C;C~A", "A", "a~C;C~A", "a"},
		// Moves and swaps among each other.
		{"a~b;a=1", "a", "a=1", ""},
		{"a~b;a=1", "b", "a~b", "a"},
		{"a~b;a=1", "ab", "a~b;a=1", "a"},
		{"a=1;a~b", "a", "a~b", "b"},
		{"a=1;a~b", "b", "a=1;a~b", ""},
		{"a=1;a~b", "ab", "a=1;a~b", "b"},
		{"a=b;b~c;d=c", "d", "b~c;d=c", "b"},
		{"a=b;b~c;d=c", "ad", "a=b;b~c;d=c", "b"},
		{"a=B;c~d;d=a;C~d", "dC", "a=B;d=a;C~d", "BC"},
		{"a=B;c~d;d=a;C~d", "c", "c~d", "d"},
		// Steps over t and u.
		{"t=a;a=b;b=t", "a", "a=b", "b"},
		{"t=a;a=b;b=t", "b", "t=a;b=t", "a"},
		{"t=a;a=b;b=t", "ab", "t=a;a=b;b=t", "ab"},
		{"t=a;a=b;b=t", "c", "-", "c"},
		{"t=A;u=B;A=u;B=t", "A", "u=B;A=u", "B"},
		{"t=A;u=B;A=u;B=t", "B", "t=A;B=t", "A"},
		{"t=A;u=B;A=u;B=t", "AB", "t=A;u=B;A=u;B=t", "AB"},
		{"t=a", "a", "-", "a"},
		{"t~u", "abcdefABC", "-", "abcdefABC"},
		{"a~t", "a", "a~t", "t"},
		{"t~a", "a", "t~a", "t"},
		{"t~a", "b", "-", "b"},
		{"t~u;a=u", "a", "t~u;a=u", "t"},
		{"u~a;t=u", "a", "u~a", "u"},
		// Values that spare places have at first.
		{"a=t;b=u", "ab", "a=t;b=u", "tu"},
		{"a=u;C=t", "aBC", "a=u;C=t", "Btu"},
		{"a=u;b=a", "b", "a=u;b=a", "u"},
		{"a=t;t=b", "a", "a=t", "t"},
		{"t=b;a=t;t=c", "a", "t=b;a=t", "b"},
		{"a~t;b~u", "abcdefABC", "a~t;b~u", "cdefABCtu"},
	}
	for _, test := range tests {
		seq := stepsOf(test.seq)
		if got, ok := impl.DropSteps(seq, test.wanted); !isSteps(got, ok, stepsOf(test.kept)) {
			t.Errorf("%s: DropSteps(%q) = %s, %v", test.seq, test.wanted, stepModel(got).format(), ok)
		}
		if got, ok := impl.NeededAhead(seq, test.wanted); got != test.needed || !ok {
			t.Errorf("%s: NeededAhead(%q) = %q, %v", test.seq, test.wanted, got, ok)
		}
		for _, wanted := range wantedTexts() {
			checkDrop(t, seq, wanted)
		}
	}
}

func TestMostStepsThatAreWanted(t *testing.T) {
	tests := []struct {
		step   impl.Step
		wanted string
		kept   int // of 60 steps
	}{
		{swap("a", "b"), "a", 60},
		{swap("a", "t"), "a", 60},
		{swap("a", "b"), "c", 0},
		{swap("a", "a"), "a", 0},
		{take("a", "b"), "a", 1},
		{take("a", "7"), "a", 1},
		{take("a", "a"), "a", 0},
		{take("t", "a"), "abcdefABC", 0},
	}
	for _, test := range tests {
		for _, n := range []int{59, 60} {
			checkDrop(t, repeated(test.step, n), test.wanted)
			checkRightFor(t, repeated(test.step, n), nil, test.wanted)
		}
		if got, ok := impl.DropSteps(repeated(test.step, 60), test.wanted); len(got) != test.kept || !ok {
			t.Errorf("%v: DropSteps(%q) = %v, %v", test.step, test.wanted, got, ok)
		}
		for _, wanted := range []string{"", test.wanted, placeLetters} {
			checkDropRefused(t, repeated(test.step, 61), wanted)
		}
	}
}

// TestDropOfAllSteps tries each step alone, and ahead of, behind and between others.
func TestDropOfAllSteps(t *testing.T) {
	for _, to := range strings.Split(cellLetters, "") {
		for _, from := range strings.Split(cellLetters+digitLetters, "") {
			list := []impl.Step{take(to, from)}
			if oneOf(cellLetters, from) {
				list = append(list, swap(to, from))
			}
			for _, step := range list {
				for _, wanted := range []string{"", "a", "b", "C", "aC", "bcd", placeLetters} {
					checkDrop(t, []impl.Step{step}, wanted)
					checkDrop(t, []impl.Step{step, take("a", "t"), swap("b", "C")}, wanted)
					checkDrop(t, []impl.Step{swap("u", "C"), take("b", "a"), step}, wanted)
					checkDrop(t, []impl.Step{take("t", "a"), step, swap("a", "u"), take("b", "t")}, wanted)
					checkRightFor(t, []impl.Step{step}, moves("a", "b", "C", "1"), wanted)
				}
			}
		}
	}
}

func TestDropAgainstTheModel(t *testing.T) {
	r := rand.New(rand.NewSource(51))
	some, all := 0, 0
	for range 3000 {
		seq := randomSequence(r)
		wanted := randomWanted(r)
		checkDrop(t, seq, wanted)
		checkDrop(t, seq[:min(len(seq), 4)], wanted)
		effect, _ := stepModel(seq).effect()
		checkRightFor(t, seq, effect, wanted)
		if len(effect) > 0 { // moves that the steps do, but for one place, which may be wanted or not
			effect[r.Intn(len(effect))].From = randomLetter(r, sourceLetters)
			checkRightFor(t, seq, effect, wanted)
		}
		other := randomMoves(r)
		checkRightFor(t, seq, other, wanted)
		checkRightFor(t, seq[:min(len(seq), 1)], other, wanted)
		if kept, _ := impl.DropSteps(seq, wanted); len(kept) > 0 && len(kept) < len(seq) {
			some++
		} else if len(kept) == len(seq) {
			all++
		}
		if t.Failed() {
			return
		}
	}
	if some < 1000 || all == 0 {
		t.Errorf("DropSteps dropped a part of %d sequences, and nothing of %d", some, all)
	}
}

func TestWantedOfAllMovesOfThreePlaces(t *testing.T) {
	for _, sorted := range allMovesOf("bfB", "bfB5") {
		for _, list := range ordersOf(sorted) {
			for _, wanted := range []string{"", "b", "f", "B", "bf", "bB", "fB", "bfB", "abf", "abcdefABC", "acdeAC", "bcdefABC"} {
				checkWanted(t, list, wanted)
			}
		}
		if t.Failed() {
			return
		}
	}
}

func TestWantedOfAllMovesOfFourPlaces(t *testing.T) {
	for _, list := range allMovesOf("abcC", "abcC0") {
		for _, wanted := range []string{"ac", "abc", "abC", "abcC", "cC", "bcdefABC"} {
			checkWanted(t, list, wanted)
		}
		if t.Failed() {
			return
		}
	}
}

func TestWantedAgainstTheModel(t *testing.T) {
	for _, wanted := range wantedTexts() {
		checkWanted(t, nil, wanted)
	}
	r := rand.New(rand.NewSource(53))
	for range 20 {
		list := randomMoves(r)
		for _, wanted := range wantedTexts() {
			checkWanted(t, list, wanted)
		}
	}
	for range 3000 {
		checkWanted(t, randomMoves(r), randomWanted(r))
		if t.Failed() {
			return
		}
	}
}

// TestWantedOfRingsWithArms has rings of all lengths, of which all is wanted or a part, with a spare place and without one.
func TestWantedOfRingsWithArms(t *testing.T) {
	r := rand.New(rand.NewSource(54))
	places, spares := 0, 0
	for _, lengths := range partitions(len(placeLetters), len(placeLetters)) {
		for arms := range 5 {
			for range 10 {
				list := exchangeWith(r, lengths)
				for i := range list[:arms] {
					list[i].From = randomLetter(r, placeLetters)
				}
				wanted := randomWanted(r)
				checkWanted(t, list, wanted)
				seq, _ := impl.OrderWanted(list, wanted)
				kept, _ := impl.KeepWanted(list, wanted)
				if written := stepModel(seq).touched(); strings.Contains(written, "t") {
					spares++
				} else if impl.NeedsSpare(kept) {
					places++
				}
			}
		}
		if t.Failed() {
			return
		}
	}
	if places < 50 || spares < 50 {
		t.Errorf("%d orders over another place, and %d over t", places, spares)
	}
}

// TestNobodyNeedsTheSparePlace gives each place that may be a spare one all values in turn, and the wanted places get theirs nevertheless.
func TestNobodyNeedsTheSparePlace(t *testing.T) {
	r := rand.New(rand.NewSource(55))
	for range 1000 {
		list, wanted := randomMovesOf(r, placeLetters), randomWanted(r)
		place, ok := impl.SpareFor(list, wanted)
		if !ok {
			continue
		}
		seq, _ := impl.OrderWanted(list, wanted)
		for _, from := range strings.Split(sourceLetters, "") {
			if !impl.IsRightFor(append(steps(place+"="+from), seq...), list, wanted) {
				t.Errorf("%q for %q: %s, but not if %s has another value", list, wanted, stepModel(seq).format(), place)
			}
		}
	}
}

func TestWantedOfListsThatAreNoMoves(t *testing.T) {
	lists := append(invalidLists(), movesOf("t=a"), movesOf("a=t"), movesOf("a=b,b=u"), movesOf("a=b,a=b"), movesOf("a=a,a=a"), movesOf("b=a,C=1,b=c"), slices.Repeat(moves("a", "b"), 1000))
	for _, list := range lists {
		for _, wanted := range []string{"", "a", "b", "ac", "defAB", "C", placeLetters, "ba", "t"} {
			checkWantedRefused(t, list, wanted)
		}
	}
}

func TestMovesOfTextsThatAreNotWanted(t *testing.T) {
	for _, text := range []string{"-", "a=b", "a=a", "a=7", "a=b,b=a", "a=b,b=a,c=a,d=7", "t=a", "a=b,b=c,c=d,d=e,e=f,f=A,A=B,B=C,C=a"} {
		for _, wanted := range notWanted {
			checkWantedRefused(t, movesOf(text), wanted)
		}
	}
}

func TestDropOfSequencesThatAreNotValid(t *testing.T) {
	for _, seq := range invalidSequences() {
		for _, wanted := range []string{"", "a", "b", "cC", placeLetters, "ba", "t"} {
			checkDropRefused(t, seq, wanted)
		}
	}
	// Steps that nobody would need are not valid either.
	for _, step := range []impl.Step{take("1", "a"), take("x", "x"), swap("a", "1"), swap("1", "1"), take("a", "x"), take("a", ""), {Kind: 2, Move: impl.Move{To: "a", From: "b"}}, {Kind: -1, Move: impl.Move{To: "t", From: "t"}}} {
		for _, wanted := range []string{"", "b", "C", "acd"} {
			checkDropRefused(t, []impl.Step{step}, wanted)
			checkDropRefused(t, []impl.Step{step, take("a", "1")}, wanted)
			checkDropRefused(t, []impl.Step{swap("a", "b"), step}, wanted)
		}
	}
}

func TestDropOfTextsThatAreNotWanted(t *testing.T) {
	for _, text := range []string{"-", "a=b", "a~b", "a=a", "t=7;a=t", "t=a;a=b;b=t", "t~u;a~t;C=u"} {
		for _, wanted := range notWanted {
			checkDropRefused(t, stepsOf(text), wanted)
		}
	}
}

func TestWantedSharesNoMemory(t *testing.T) {
	lists := append(invalidLists(), movesOf("b=a,a=b"), movesOf("c=a,b=a,a=b,d=7"), movesOf("a=a,b=1"), movesOf("a=a"), movesOf("-"))
	texts := []string{"", "a", "ab", "bcd", placeLetters, "ba", "t"}
	for _, list := range lists {
		for _, wanted := range texts {
			checkOwnMemory(t, list, map[string]func([]impl.Move) ([]impl.Move, bool){"KeepWanted " + wanted: func(list []impl.Move) ([]impl.Move, bool) { return impl.KeepWanted(list, wanted) }})
			checkOwnMemory(t, list, map[string]func([]impl.Move) ([]impl.Step, bool){"OrderWanted " + wanted: func(list []impl.Move) ([]impl.Step, bool) { return impl.OrderWanted(list, wanted) }})
			short, room := roomBehind(list)
			before := slices.Clone(room)
			impl.NeededBy(short, wanted)
			impl.SpareFor(short, wanted)
			impl.IsRightFor(steps("a=b", "c=a"), short, wanted)
			if !slices.Equal(room, before) {
				t.Errorf("%q: an argument was changed", list)
			}
		}
	}
	for _, seq := range append(invalidSequences(), steps("a=b", "b~a", "t=1"), steps("t=a", "a=b", "b=t"), steps("a=a", "b~b"), steps()) {
		calls := map[string]func([]impl.Step) ([]impl.Step, bool){}
		for _, wanted := range texts {
			calls["DropSteps "+wanted] = func(seq []impl.Step) ([]impl.Step, bool) {
				impl.NeededAhead(seq, wanted)
				impl.IsRightFor(seq, movesOf("a=b,b=a"), wanted)
				return impl.DropSteps(seq, wanted)
			}
		}
		checkOwnSteps(t, seq, calls)
	}
}
