package tests

import (
	"math"
	"strings"
	"testing"

	"loop.example/g00545/impl"
)

// partsTexts has, at each place, the text of those Parts, written out by hand.
var partsTexts = [16]string{
	"", "+a", "+b", "+a+b", "+c", "+a+c", "+b+c", "+a+b+c",
	"+d", "+a+d", "+b+d", "+a+b+d", "+c+d", "+a+c+d", "+b+c+d", "+a+b+c+d",
}

var levelTexts = [4]string{"L0", "L1", "L2", "L3"}

func label(level, parts int64) impl.Label {
	return impl.Label{Level: level, Parts: parts}
}

func allLabels() []impl.Label {
	var all []impl.Label
	for level := range int64(4) {
		for parts := range int64(16) {
			all = append(all, label(level, parts))
		}
	}
	return all
}

// textsOfLabels has every right text, and the label that it tells.
func textsOfLabels() map[string]impl.Label {
	texts := map[string]impl.Label{}
	for level, first := range levelTexts {
		for parts, rest := range partsTexts {
			texts[first+rest] = label(int64(level), int64(parts))
		}
	}
	return texts
}

func wrongNumbers(greatest int64) []int64 {
	return []int64{-1, greatest + 1, -greatest - 1, 64, 255, 256, 257, -256, 1 << 32, -1 << 32,
		math.MaxInt64, math.MaxInt64 - 1, math.MinInt64, math.MinInt64 + 1}
}

func wrongLabels() []impl.Label {
	var wrong []impl.Label
	for _, level := range wrongNumbers(impl.MaxLevel) {
		wrong = append(wrong, label(level, 0), label(level, 5), label(level, 15))
	}
	for _, parts := range wrongNumbers(impl.AllParts) {
		wrong = append(wrong, label(0, parts), label(2, parts), label(3, parts))
	}
	return append(wrong, label(4, 16), label(-1, -1), label(4, -1), label(-1, 16),
		label(math.MinInt64, math.MinInt64), label(math.MaxInt64, math.MaxInt64))
}

// above is told part by part, by division, not by bits.
func above(a, b impl.Label) bool {
	for part := int64(1); part <= 8; part *= 2 {
		if b.Parts/part%2 == 1 && a.Parts/part%2 == 0 {
			return false
		}
	}
	return a.Level >= b.Level
}

func TestConstants(t *testing.T) {
	codes := [9]int64{impl.OK, impl.ErrForm, impl.ErrMany, impl.ErrRange, impl.ErrNone,
		impl.ErrText, impl.ErrDenied, impl.ErrFull, impl.ErrState}
	if codes != [9]int64{0, 1, 2, 3, 4, 5, 6, 7, 8} {
		t.Errorf("codes: %v", codes)
	}
	if impl.MaxLevel != 3 || impl.AllParts != 15 {
		t.Errorf("bounds: %d, %d", impl.MaxLevel, impl.AllParts)
	}
}

func TestLabelFault(t *testing.T) {
	for _, l := range allLabels() {
		if got := impl.LabelFault(l); got != impl.OK {
			t.Errorf("LabelFault(%v) = %d", l, got)
		}
	}
	for _, l := range wrongLabels() {
		if got := impl.LabelFault(l); got != impl.ErrRange {
			t.Errorf("LabelFault(%v) = %d", l, got)
		}
	}
}

func TestDominatesByHand(t *testing.T) {
	cases := []struct {
		a, b impl.Label
		want bool
	}{
		{label(2, 3), label(1, 1), true},
		{label(2, 1), label(1, 2), false},
		{label(1, 3), label(2, 1), false},
		{label(0, 0), label(0, 0), true},
		{label(3, 15), label(0, 0), true},
		{label(0, 0), label(3, 15), false},
		{label(3, 0), label(0, 1), false},
		{label(0, 15), label(1, 0), false},
		// Eight alone is the greater number than seven, but has none of its bits.
		{label(1, 8), label(1, 7), false},
		{label(1, 7), label(1, 8), false},
		{label(1, 12), label(1, 10), false},
		{label(1, 14), label(1, 10), true},
	}
	for _, c := range cases {
		if got := impl.Dominates(c.a, c.b); got != c.want {
			t.Errorf("Dominates(%v, %v) = %v", c.a, c.b, got)
		}
	}
}

func TestDominatesEverywhere(t *testing.T) {
	for _, a := range allLabels() {
		for _, b := range allLabels() {
			if got := impl.Dominates(a, b); got != above(a, b) {
				t.Errorf("Dominates(%v, %v) = %v", a, b, got)
			}
		}
	}
}

func TestDominatesIsAnOrder(t *testing.T) {
	all := allLabels()
	for _, a := range all {
		if !impl.Dominates(a, a) {
			t.Errorf("%v is not above itself", a)
		}
		for _, b := range all {
			if a != b && impl.Dominates(a, b) && impl.Dominates(b, a) {
				t.Errorf("%v and %v are above each other", a, b)
			}
			for _, c := range all {
				if impl.Dominates(a, b) && impl.Dominates(b, c) && !impl.Dominates(a, c) {
					t.Errorf("%v above %v above %v, but not the first above the last", a, b, c)
				}
			}
		}
	}
}

func TestDominatesWrong(t *testing.T) {
	for _, w := range wrongLabels() {
		for _, l := range allLabels() {
			if impl.Dominates(w, l) || impl.Dominates(l, w) {
				t.Errorf("%v and %v: one is above the other", w, l)
			}
		}
		for _, v := range wrongLabels() {
			if impl.Dominates(w, v) {
				t.Errorf("%v is above %v", w, v)
			}
		}
	}
}

func TestJoinAndMeetByHand(t *testing.T) {
	cases := []struct{ a, b, join, meet impl.Label }{
		{label(1, 1), label(0, 2), label(1, 3), label(0, 0)},
		{label(1, 1), label(0, 3), label(1, 3), label(0, 1)},
		{label(0, 12), label(3, 10), label(3, 14), label(0, 8)},
		{label(0, 0), label(3, 15), label(3, 15), label(0, 0)},
		{label(2, 5), label(2, 5), label(2, 5), label(2, 5)},
		{label(2, 5), label(1, 10), label(2, 15), label(1, 0)},
	}
	for _, c := range cases {
		if got := impl.JoinLabels(c.a, c.b); got != (impl.LabelResult{Label: c.join}) {
			t.Errorf("JoinLabels(%v, %v) = %v", c.a, c.b, got)
		}
		if got := impl.MeetLabels(c.a, c.b); got != (impl.LabelResult{Label: c.meet}) {
			t.Errorf("MeetLabels(%v, %v) = %v", c.a, c.b, got)
		}
	}
}

func TestJoinIsTheLeastAbove(t *testing.T) {
	all := allLabels()
	for _, a := range all {
		for _, b := range all {
			join := impl.JoinLabels(a, b)
			if join.Code != impl.OK || !above(join.Label, a) || !above(join.Label, b) {
				t.Fatalf("JoinLabels(%v, %v) = %v", a, b, join)
			}
			for _, c := range all {
				if above(c, a) && above(c, b) && !above(c, join.Label) {
					t.Fatalf("JoinLabels(%v, %v) = %v is not below %v", a, b, join, c)
				}
			}
		}
	}
}

func TestMeetIsTheGreatestBelow(t *testing.T) {
	all := allLabels()
	for _, a := range all {
		for _, b := range all {
			meet := impl.MeetLabels(a, b)
			if meet.Code != impl.OK || !above(a, meet.Label) || !above(b, meet.Label) {
				t.Fatalf("MeetLabels(%v, %v) = %v", a, b, meet)
			}
			for _, c := range all {
				if above(a, c) && above(b, c) && !above(meet.Label, c) {
					t.Fatalf("MeetLabels(%v, %v) = %v is not above %v", a, b, meet, c)
				}
			}
		}
	}
}

func TestJoinAndMeetWrong(t *testing.T) {
	fault := impl.LabelResult{Code: impl.ErrRange}
	for _, w := range wrongLabels() {
		for _, other := range append(allLabels(), w) {
			if got := impl.JoinLabels(w, other); got != fault {
				t.Errorf("JoinLabels(%v, %v) = %v", w, other, got)
			}
			if got := impl.JoinLabels(other, w); got != fault {
				t.Errorf("JoinLabels(%v, %v) = %v", other, w, got)
			}
			if got := impl.MeetLabels(w, other); got != fault {
				t.Errorf("MeetLabels(%v, %v) = %v", w, other, got)
			}
			if got := impl.MeetLabels(other, w); got != fault {
				t.Errorf("MeetLabels(%v, %v) = %v", other, w, got)
			}
		}
	}
}

func TestCodes(t *testing.T) {
	// The labels stand in the order of their codes: 16 for each level, one for each Parts.
	for place, l := range allLabels() {
		if got := impl.CodeOf(l); got != (impl.IntResult{Value: int64(place)}) {
			t.Errorf("CodeOf(%v) = %v", l, got)
		}
		if got := impl.LabelOf(int64(place)); got != (impl.LabelResult{Label: l}) {
			t.Errorf("LabelOf(%d) = %v", place, got)
		}
	}
	if impl.CodeOf(label(1, 1)).Value != 17 || impl.CodeOf(label(3, 15)).Value != 63 || impl.CodeOf(label(0, 0)).Value != 0 {
		t.Error("codes by hand")
	}
}

func TestCodesWrong(t *testing.T) {
	for _, l := range wrongLabels() {
		if got := impl.CodeOf(l); got != (impl.IntResult{Code: impl.ErrRange}) {
			t.Errorf("CodeOf(%v) = %v", l, got)
		}
	}
	for _, code := range wrongNumbers(63) {
		if got := impl.LabelOf(code); got != (impl.LabelResult{Code: impl.ErrRange}) {
			t.Errorf("LabelOf(%d) = %v", code, got)
		}
	}
}

func TestLabelText(t *testing.T) {
	for text, l := range textsOfLabels() {
		if got := impl.LabelText(l); got != (impl.TextResult{Text: text}) {
			t.Errorf("LabelText(%v) = %v, not %q", l, got, text)
		}
		if got := impl.ParseLabel(text); got != (impl.LabelResult{Label: l}) {
			t.Errorf("ParseLabel(%q) = %v, not %v", text, got, l)
		}
	}
	for _, l := range wrongLabels() {
		if got := impl.LabelText(l); got != (impl.TextResult{Code: impl.ErrRange}) {
			t.Errorf("LabelText(%v) = %v", l, got)
		}
	}
}

func TestParseLabelWrongByHand(t *testing.T) {
	texts := []string{
		"", "L", "0", "+a", "L+a", "l0", "L4", "L9", "L-1", "L/", "L:", "L00", "L10", "L01", " L0", "L0 ", "L0\n",
		"L2+c+a", "L2+b+a", "L0+d+c+b+a", "L0+a+c+b", "L2+a+a", "L0+a+b+a", "L0+a+b+b", "L0+d+d",
		"L2+e", "L2+a+e", "L0+A", "L0+1", "L0+`", "L0++", "L0++a", "L0+a++b",
		"L2+", "L2+a+", "L2a", "L2ab", "L2+ab", "L2+a b", "L2+a ", "L2+a,", "L2+a+c+d+", "L3+a+b+c+d+e", "L3+a+b+c+d+a",
		"L2+a\x00", "L\x000", "\xffL0", "L0\xff", "Ł0", "L\u0660", strings.Repeat("L0+a", 1000), "L0" + strings.Repeat("+a", 1000),
	}
	for _, text := range texts {
		if got := impl.ParseLabel(text); got != (impl.LabelResult{Code: impl.ErrText}) {
			t.Errorf("ParseLabel(%q) = %v", text, got)
		}
	}
}

func checkParse(t *testing.T, texts map[string]impl.Label, text string) {
	want := impl.LabelResult{Code: impl.ErrText}
	if l, ok := texts[text]; ok {
		want = impl.LabelResult{Label: l}
	}
	if got := impl.ParseLabel(text); got != want {
		t.Errorf("ParseLabel(%q) = %v, not %v", text, got, want)
	}
}

// Every text that is one byte away from a right one is read only if it is right itself.
func TestParseLabelOneByteAway(t *testing.T) {
	texts := textsOfLabels()
	for text := range texts {
		for place := range len(text) + 1 {
			ahead, behind := text[:place], text[place:]
			for b := range 256 {
				one := string([]byte{byte(b)})
				checkParse(t, texts, ahead+one+behind)
				if behind != "" {
					checkParse(t, texts, ahead+one+behind[1:])
				}
			}
			if behind != "" {
				checkParse(t, texts, ahead+behind[1:])
			}
		}
	}
}

// Every sum of up to five pieces in every order is read only if the letters rise.
func TestParseLabelPiecesInEveryOrder(t *testing.T) {
	texts := textsOfLabels()
	pieces := []string{"+a", "+b", "+c", "+d", "+e"}
	layer := levelTexts[:]
	for range 5 {
		var longer []string
		for _, text := range layer {
			checkParse(t, texts, text)
			for _, piece := range pieces {
				longer = append(longer, text+piece)
			}
		}
		layer = longer
	}
	for _, text := range layer {
		checkParse(t, texts, text)
	}
}

// answers holds what all functions of the chapter answer at one pair of labels, one code and one text.
type answers struct {
	fault      int64
	dominates  bool
	join, meet impl.LabelResult
	code       impl.IntResult
	of         impl.LabelResult
	text       impl.TextResult
	parsed     impl.LabelResult
}

func answersAt(a, b impl.Label, code int64, text string) answers {
	return answers{
		fault: impl.LabelFault(a), dominates: impl.Dominates(a, b),
		join: impl.JoinLabels(a, b), meet: impl.MeetLabels(a, b),
		code: impl.CodeOf(a), of: impl.LabelOf(code),
		text: impl.LabelText(a), parsed: impl.ParseLabel(text),
	}
}

// What is answered hangs on the arguments alone: asked again, in another order and with other calls between, it is the same.
func TestLabelsKeepNothing(t *testing.T) {
	labels := append(allLabels(), wrongLabels()...)
	texts := []string{"L0", "L3+a+b+c+d", "L2+a+c", "L2+c+a", "", "L4"}
	at := func(i int) answers {
		return answersAt(labels[i], labels[(i*7+3)%len(labels)], int64(i-10), texts[i%len(texts)])
	}
	var first []answers
	for i := range labels {
		first = append(first, at(i))
	}
	for i := len(labels) - 1; i >= 0; i-- {
		if again := at(i); again != first[i] {
			t.Errorf("at %v: first %v, then %v", labels[i], first[i], again)
		}
	}
}
