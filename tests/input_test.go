package tests

import (
	"math"
	"slices"
	"testing"

	"loop.example/g00545/impl"
)

func hand(kind, a, b int64) impl.Hand {
	return impl.Hand{Kind: kind, A: a, B: b}
}

func keyHand(a int64) impl.Hand {
	return hand(1, a, 0)
}

func clickHand(x, y int64) impl.Hand {
	return hand(2, x, y)
}

func attentionHand() impl.Hand {
	return hand(3, 0, 0)
}

func leaveHand() impl.Hand {
	return hand(4, 0, 0)
}

func input(trusted bool, focus int64) impl.Input {
	return impl.Input{Trusted: trusted, Focus: focus}
}

// allClicks has a click at each point of the screen.
func allClicks() []impl.Hand {
	var clicks []impl.Hand
	for y := range int64(8) {
		for x := range int64(12) {
			clicks = append(clicks, clickHand(x, y))
		}
	}
	return clicks
}

// allHands has every hand that is right.
func allHands() []impl.Hand {
	hands := allClicks()
	for a := range int64(256) {
		hands = append(hands, keyHand(a))
	}
	return append(hands, attentionHand(), leaveHand())
}

// fociOf has all that the focus may be over that stack: none, and each of its windows.
func fociOf(stack []impl.Window) []int64 {
	return append([]int64{0}, idsOfStack(stack)...)
}

// fewFociOf has no focus, the lowest window, one in the midst and the topmost one.
func fewFociOf(stack []impl.Window) []int64 {
	ids := idsOfStack(stack)
	if len(ids) == 0 {
		return []int64{0}
	}
	return []int64{0, ids[0], ids[len(ids)/2], ids[len(ids)-1]}
}

// wrongFoci has ids of windows that stack has not, numbers that are no id, and the least and the greatest ones.
func wrongFoci(stack []impl.Window) []int64 {
	return slices.DeleteFunc(append(wrongIds(), allIds()...), func(focus int64) bool {
		return slices.Contains(fociOf(stack), focus)
	})
}

func route(target int64, m impl.Msg, i impl.Input) impl.RouteResult {
	return impl.RouteResult{Target: target, Msg: m, Input: i}
}

// toNobody is what is answered where nobody gets anything.
func toNobody(i impl.Input) impl.RouteResult {
	return impl.RouteResult{Input: i}
}

func sameRoutes(a, b impl.RouteResult) bool {
	return a.Code == b.Code && a.Target == b.Target && sameMsgByHand(a.Msg, b.Msg) && a.Input.Trusted == b.Input.Trusted && a.Input.Focus == b.Input.Focus
}

func isNoRoute(got impl.RouteResult, code int64) bool {
	return sameRoutes(got, impl.RouteResult{Code: code})
}

// routeByHand tells what the document asks of a right hand over a right stack, of which tops holds the topmost windows.
func routeByHand(i impl.Input, stack []impl.Window, tops map[point]int64, h impl.Hand) impl.RouteResult {
	switch {
	case h.Kind == 3:
		return toNobody(input(true, i.Focus))
	case h.Kind == 4:
		return toNobody(input(false, i.Focus))
	case i.Trusted || h.Kind == 1 && i.Focus == 0:
		return toNobody(i)
	case h.Kind == 1:
		return route(i.Focus, msg(4, byte(h.A)), i)
	}
	id := tops[point{h.A, h.B}]
	if id == 0 || h.B == 0 {
		return toNobody(input(false, 0))
	}
	r := stack[slices.Index(idsOfStack(stack), id)].Rect
	return route(id, msg(5, byte(id), byte(h.A-r.X), byte(h.B-r.Y)), input(false, id))
}

// targetsByHand goes on with the input as each hand leaves it.
func targetsByHand(i impl.Input, stack []impl.Window, list []impl.Hand) []int64 {
	var targets []int64
	tops := topsByHand(stack)
	for _, h := range list {
		routed := routeByHand(i, stack, tops, h)
		targets = append(targets, routed.Target)
		i = routed.Input
	}
	return targets
}

// checkHands asks each hand of every input that there may be with those foci.
func checkHands(t *testing.T, stack []impl.Window, foci []int64, hands []impl.Hand) {
	t.Helper()
	tops := topsByHand(stack)
	for _, focus := range foci {
		for _, trusted := range []bool{false, true} {
			for _, h := range hands {
				i := input(trusted, focus)
				if got, want := impl.RouteHand(i, stack, h), routeByHand(i, stack, tops, h); !sameRoutes(got, want) {
					t.Fatalf("RouteHand of %v, %v, %v = %v, not %v", i, stack, h, got, want)
				}
			}
		}
	}
}

func TestInputConstants(t *testing.T) {
	if impl.HandKey != 1 || impl.HandClick != 2 || impl.HandAttention != 3 || impl.HandLeave != 4 {
		t.Errorf("HandKey, HandClick, HandAttention, HandLeave: %d, %d, %d, %d", impl.HandKey, impl.HandClick, impl.HandAttention, impl.HandLeave)
	}
}

// wrongHand is a hand with the code that the document asks of it.
type wrongHand struct {
	h    impl.Hand
	code int64
}

// wrongHands has each fault alone and several at once: what a kind has not is told ahead of bounds.
func wrongHands() []wrongHand {
	return []wrongHand{
		{hand(0, 0, 0), impl.ErrForm}, {hand(5, 0, 0), impl.ErrForm}, {hand(-1, 0, 0), impl.ErrForm}, {hand(0, 1, 1), impl.ErrForm},
		{hand(0, 256, 8), impl.ErrForm}, {hand(5, -1, -1), impl.ErrForm}, {hand(257, 70, 0), impl.ErrForm}, {hand(1<<32+2, 3, 3), impl.ErrForm},
		{hand(math.MaxInt64, 0, 0), impl.ErrForm}, {hand(math.MinInt64, 0, 0), impl.ErrForm}, {hand(math.MinInt64+3, 0, 0), impl.ErrForm},
		{hand(1, 256, 0), impl.ErrRange}, {hand(1, -1, 0), impl.ErrRange}, {hand(1, math.MaxInt64, 0), impl.ErrRange}, {hand(1, math.MinInt64, 0), impl.ErrRange},
		{hand(1, 70, 1), impl.ErrForm}, {hand(1, 70, -1), impl.ErrForm}, {hand(1, 256, 1), impl.ErrForm}, {hand(1, -1, -1), impl.ErrForm},
		{hand(1, 0, math.MaxInt64), impl.ErrForm}, {hand(1, 255, math.MinInt64), impl.ErrForm}, {hand(1, math.MinInt64, math.MinInt64), impl.ErrForm},
		{hand(2, 12, 0), impl.ErrRange}, {hand(2, 0, 8), impl.ErrRange}, {hand(2, -1, 7), impl.ErrRange}, {hand(2, 11, -1), impl.ErrRange},
		{hand(2, 12, 8), impl.ErrRange}, {hand(2, -1, -1), impl.ErrRange}, {hand(2, 8, 11), impl.ErrRange}, {hand(2, 3, math.MaxInt64), impl.ErrRange},
		{hand(2, math.MinInt64, 3), impl.ErrRange}, {hand(2, math.MaxInt64, math.MinInt64), impl.ErrRange}, {hand(2, 1<<32+3, 3), impl.ErrRange}, {hand(2, 3, -1<<32+3), impl.ErrRange},
		{hand(3, 1, 0), impl.ErrForm}, {hand(3, 0, 1), impl.ErrForm}, {hand(3, -1, 0), impl.ErrForm}, {hand(3, 0, -1), impl.ErrForm}, {hand(3, 256, 8), impl.ErrForm},
		{hand(3, math.MaxInt64, 0), impl.ErrForm}, {hand(3, 0, math.MinInt64), impl.ErrForm}, {hand(3, 1<<32, 0), impl.ErrForm},
		{hand(4, 1, 0), impl.ErrForm}, {hand(4, 0, 1), impl.ErrForm}, {hand(4, -1, 0), impl.ErrForm}, {hand(4, 0, -1), impl.ErrForm}, {hand(4, 12, 12), impl.ErrForm},
		{hand(4, math.MinInt64, 0), impl.ErrForm}, {hand(4, 0, math.MaxInt64), impl.ErrForm}, {hand(4, 0, 1<<32), impl.ErrForm},
	}
}

func TestHandFault(t *testing.T) {
	for _, h := range allHands() {
		if got := impl.HandFault(h); got != impl.OK {
			t.Errorf("HandFault(%v) = %d", h, got)
		}
	}
	for _, w := range wrongHands() {
		if got := impl.HandFault(w.h); got != w.code {
			t.Errorf("HandFault(%v) = %d, not %d", w.h, got, w.code)
		}
	}
}

// handFaultByHand knows a right hand from the list of all of them.
func handFaultByHand(right map[impl.Hand]bool, h impl.Hand) int64 {
	switch {
	case right[h]:
		return impl.OK
	case h.Kind == 1 && h.B == 0, h.Kind == 2:
		return impl.ErrRange
	}
	return impl.ErrForm
}

func rightHandSet() map[impl.Hand]bool {
	right := map[impl.Hand]bool{}
	for _, h := range allHands() {
		right[h] = true
	}
	return right
}

// Every number around the bounds, and far ones, in each place of a hand.
func TestHandFaultEverywhere(t *testing.T) {
	right := rightHandSet()
	far := []int64{1 << 16, 1<<32 + 1, -1<<32 + 3, 1 << 62, math.MaxInt64, math.MaxInt64 - 1, math.MinInt64, math.MinInt64 + 1}
	numbers := append(slices.Clone(far), 254, 255, 256, 257, -255, -256)
	for n := int64(-14); n <= 14; n++ {
		numbers = append(numbers, n)
	}
	kinds := append(slices.Clone(far), -4, -3, -2, -1, 0, 1, 2, 3, 4, 5, 6, 7, 8, 255, 256, 257, 258, 259, 260)
	for _, kind := range kinds {
		for _, a := range numbers {
			for _, b := range numbers {
				if got, want := impl.HandFault(hand(kind, a, b)), handFaultByHand(right, hand(kind, a, b)); got != want {
					t.Errorf("HandFault of %d, %d, %d = %d, not %d", kind, a, b, got, want)
				}
			}
		}
	}
}

// pile has a window under another one in part, one that lies over the screen's corner but is not mapped, and a small one at the top.
func pile() []impl.Window {
	return []impl.Window{shownWindow(1, rect(1, 1, 4, 3)), hiddenWindow(66, rect(0, 0, 8, 6)), shownWindow(130, rect(3, 2, 3, 3)), shownWindow(194, rect(2, 3, 2, 1))}
}

func TestRouteByHand(t *testing.T) {
	cases := []struct {
		i    impl.Input
		h    impl.Hand
		want impl.RouteResult
	}{
		{input(false, 0), keyHand(70), toNobody(input(false, 0))},
		{input(false, 1), keyHand(70), route(1, msg(4, 70), input(false, 1))},
		{input(false, 130), keyHand(0), route(130, msg(4, 0), input(false, 130))},
		{input(false, 194), keyHand(255), route(194, msg(4, 255), input(false, 194))},
		{input(false, 66), keyHand(9), route(66, msg(4, 9), input(false, 66))}, // it is not mapped, but it has the focus
		{input(true, 0), keyHand(70), toNobody(input(true, 0))},
		{input(true, 1), keyHand(70), toNobody(input(true, 1))},
		{input(true, 66), keyHand(0), toNobody(input(true, 66))},
		{input(false, 0), clickHand(1, 1), route(1, msg(5, 1, 0, 0), input(false, 1))},
		{input(false, 194), clickHand(4, 1), route(1, msg(5, 1, 3, 0), input(false, 1))},
		{input(false, 1), clickHand(4, 3), route(130, msg(5, 130, 1, 1), input(false, 130))},
		{input(false, 130), clickHand(4, 3), route(130, msg(5, 130, 1, 1), input(false, 130))},
		{input(false, 66), clickHand(3, 4), route(130, msg(5, 130, 0, 2), input(false, 130))},
		{input(false, 0), clickHand(2, 3), route(194, msg(5, 194, 0, 0), input(false, 194))},
		{input(false, 1), clickHand(3, 3), route(194, msg(5, 194, 1, 0), input(false, 194))},
		{input(false, 1), clickHand(0, 1), toNobody(input(false, 0))},
		{input(false, 194), clickHand(11, 7), toNobody(input(false, 0))},
		{input(false, 0), clickHand(6, 5), toNobody(input(false, 0))},
		{input(false, 1), clickHand(1, 0), toNobody(input(false, 0))},
		{input(false, 130), clickHand(0, 0), toNobody(input(false, 0))},
		{input(true, 1), clickHand(4, 3), toNobody(input(true, 1))},
		{input(true, 0), clickHand(4, 3), toNobody(input(true, 0))},
		{input(true, 1), clickHand(11, 7), toNobody(input(true, 1))},
		{input(true, 194), clickHand(1, 0), toNobody(input(true, 194))},
		{input(false, 0), attentionHand(), toNobody(input(true, 0))},
		{input(false, 130), attentionHand(), toNobody(input(true, 130))},
		{input(true, 130), attentionHand(), toNobody(input(true, 130))},
		{input(true, 0), attentionHand(), toNobody(input(true, 0))},
		{input(true, 66), leaveHand(), toNobody(input(false, 66))},
		{input(true, 0), leaveHand(), toNobody(input(false, 0))},
		{input(false, 66), leaveHand(), toNobody(input(false, 66))},
		{input(false, 0), leaveHand(), toNobody(input(false, 0))},
	}
	for _, c := range cases {
		if got := impl.RouteHand(c.i, pile(), c.h); !sameRoutes(got, c.want) {
			t.Errorf("RouteHand of %v, %v = %v, not %v", c.i, c.h, got, c.want)
		}
	}
}

// Windows that reach out of the screen, or lie behind row 0, tell where they were clicked from their own upper left point.
func TestClickOnWindowsAtEdges(t *testing.T) {
	cases := []struct {
		w    impl.Window
		x, y int64
		want impl.RouteResult
	}{
		{shownWindow(131, rect(0, 0, 2, 3)), 0, 0, toNobody(input(false, 0))},
		{shownWindow(131, rect(0, 0, 2, 3)), 1, 0, toNobody(input(false, 0))},
		{shownWindow(131, rect(0, 0, 2, 3)), 0, 1, route(131, msg(5, 131, 0, 1), input(false, 131))},
		{shownWindow(131, rect(0, 0, 2, 3)), 1, 2, route(131, msg(5, 131, 1, 2), input(false, 131))},
		{shownWindow(131, rect(0, 0, 2, 3)), 0, 3, toNobody(input(false, 0))},
		{shownWindow(1, rect(4, 0, 8, 1)), 5, 0, toNobody(input(false, 0))},
		{shownWindow(1, rect(4, 0, 8, 1)), 5, 1, toNobody(input(false, 0))},
		{shownWindow(193, rect(-2, -1, 4, 4)), 0, 1, route(193, msg(5, 193, 2, 2), input(false, 193))},
		{shownWindow(193, rect(-2, -1, 4, 4)), 1, 2, route(193, msg(5, 193, 3, 3), input(false, 193))},
		{shownWindow(193, rect(-2, -1, 4, 4)), 0, 0, toNobody(input(false, 0))},
		{shownWindow(193, rect(-2, -1, 4, 4)), 2, 1, toNobody(input(false, 0))},
		{shownWindow(195, rect(10, 6, 8, 6)), 10, 6, route(195, msg(5, 195, 0, 0), input(false, 195))},
		{shownWindow(195, rect(10, 6, 8, 6)), 11, 7, route(195, msg(5, 195, 1, 1), input(false, 195))},
		{shownWindow(195, rect(10, 6, 8, 6)), 9, 6, toNobody(input(false, 0))},
		{shownWindow(65, rect(-7, -4, 8, 6)), 0, 1, route(65, msg(5, 65, 7, 5), input(false, 65))},
		{hiddenWindow(65, rect(-7, -4, 8, 6)), 0, 1, toNobody(input(false, 0))},
		{shownWindow(3, rect(12, 1, 8, 6)), 11, 3, toNobody(input(false, 0))},
	}
	for _, c := range cases {
		for _, focus := range []int64{0, c.w.Id} {
			if got := impl.RouteHand(input(false, focus), []impl.Window{c.w}, clickHand(c.x, c.y)); !sameRoutes(got, c.want) {
				t.Errorf("click of %v at %d, %d with focus %d = %v, not %v", c.w, c.x, c.y, focus, got, c.want)
			}
			if got := impl.RouteHand(input(true, focus), []impl.Window{c.w}, clickHand(c.x, c.y)); !sameRoutes(got, toNobody(input(true, focus))) {
				t.Errorf("trusted click of %v at %d, %d with focus %d = %v", c.w, c.x, c.y, focus, got)
			}
		}
	}
}

// An empty list and nil are the same, and over nothing nobody gets anything.
func TestRouteOverNothing(t *testing.T) {
	for _, stack := range [][]impl.Window{nil, {}} {
		checkHands(t, stack, []int64{0}, allHands())
	}
}

// Every hand that is right, with every input that there may be, over the pile and over twelve windows, mapped and not.
func TestRouteEveryHand(t *testing.T) {
	for _, stack := range [][]impl.Window{pile(), fullStack()} {
		checkHands(t, stack, fociOf(stack), allHands())
		for place := range stack {
			checkHands(t, mappedByHand(stack, place, !stack[place].Mapped), fociOf(stack), []impl.Hand{keyHand(0), keyHand(70), keyHand(255), attentionHand(), leaveHand()})
		}
	}
}

func TestClickEachPointOfDrawnStacks(t *testing.T) {
	for _, d := range drawnByHand() {
		checkHands(t, d.stack, fociOf(d.stack), allClicks())
	}
}

func TestRouteOverRightStacks(t *testing.T) {
	hands := append(allClicks(), keyHand(0), keyHand(1), keyHand(255), attentionHand(), leaveHand())
	for _, stack := range rightStacks() {
		shown := cloneStack(stack)
		for place := range shown {
			shown[place].Mapped = true
		}
		checkHands(t, stack, fewFociOf(stack), hands)
		checkHands(t, shown, fewFociOf(stack), hands)
	}
}

// One window of each size, mapped and not, at each place around the edges: no point of row 0 is clicked.
func TestClickOneWindow(t *testing.T) {
	for _, size := range []impl.Rect{rect(0, 0, 1, 1), rect(0, 0, 8, 1), rect(0, 0, 1, 6), rect(0, 0, 8, 6)} {
		for _, x := range []int64{-20, -size.Width, 1 - size.Width, -1, 0, 3, 12 - size.Width, 13 - size.Width, 11, 12, 20} {
			for _, y := range []int64{-20, -size.Height, 1 - size.Height, 2 - size.Height, -1, 0, 1, 8 - size.Height, 9 - size.Height, 7, 8, 20} {
				for _, mapped := range []bool{true, false} {
					stack := []impl.Window{window(66, rect(x, y, size.Width, size.Height), mapped, 4)}
					checkHands(t, stack, []int64{0, 66}, allClicks())
				}
			}
		}
	}
}

// Windows of all four slots that lie over one another wholly, or in part, in every order and mapped in every way.
func TestClickEachOnTop(t *testing.T) {
	for _, rects := range [][4]impl.Rect{
		{rect(2, 2, 3, 3), rect(2, 2, 3, 3), rect(2, 2, 3, 3), rect(2, 2, 3, 3)},
		{rect(1, 1, 8, 6), rect(2, 2, 5, 4), rect(3, 3, 3, 2), rect(4, 4, 1, 1)},
		{rect(3, -1, 4, 3), rect(3, 0, 4, 3), rect(-3, 1, 8, 3), rect(8, 2, 8, 6)},
	} {
		for number, order := range ordersOfFour() {
			for mapped := range 16 {
				var stack []impl.Window
				for _, slot := range order {
					stack = append(stack, window(idsOfSlots[slot][number%3], rects[slot], mapped>>slot&1 == 1, slot))
				}
				checkHands(t, stack, []int64{fociOf(stack)[number%5]}, allClicks())
			}
		}
	}
}

// typed is who gets a key after those hands, each with the input that the one ahead leaves.
func typed(t *testing.T, i impl.Input, stack []impl.Window, hands ...impl.Hand) int64 {
	t.Helper()
	for _, h := range hands {
		got := impl.RouteHand(i, stack, h)
		if got.Code != impl.OK {
			t.Fatalf("RouteHand of %v, %v, %v = %v", i, stack, h, got)
		}
		i = got.Input
	}
	return impl.RouteHand(i, stack, keyHand(70)).Target
}

// What is typed goes to who was clicked last; from trusted mode one comes back to the focus that was.
func TestTypedAfterClicks(t *testing.T) {
	low, mid, top, none, strip := clickHand(1, 1), clickHand(5, 2), clickHand(3, 3), clickHand(11, 7), clickHand(3, 0)
	cases := []struct {
		hands []impl.Hand
		want  int64
	}{
		{nil, 66},
		{[]impl.Hand{low}, 1},
		{[]impl.Hand{mid}, 130},
		{[]impl.Hand{top}, 194},
		{[]impl.Hand{none}, 0},
		{[]impl.Hand{strip}, 0},
		{[]impl.Hand{low, mid, top}, 194},
		{[]impl.Hand{top, mid, low}, 1},
		{[]impl.Hand{top, none}, 0},
		{[]impl.Hand{top, strip}, 0},
		{[]impl.Hand{strip, none, mid}, 130},
		{[]impl.Hand{mid, keyHand(1), keyHand(2), mid, keyHand(3)}, 130},
		{[]impl.Hand{top, attentionHand()}, 0},
		{[]impl.Hand{top, attentionHand(), leaveHand()}, 194},
		{[]impl.Hand{top, attentionHand(), low, keyHand(1), leaveHand()}, 194},
		{[]impl.Hand{top, attentionHand(), none, leaveHand()}, 194},
		{[]impl.Hand{top, attentionHand(), strip, attentionHand(), leaveHand()}, 194},
		{[]impl.Hand{attentionHand(), attentionHand(), leaveHand()}, 66},
		{[]impl.Hand{leaveHand(), leaveHand()}, 66},
		{[]impl.Hand{attentionHand(), leaveHand(), attentionHand()}, 0},
		{[]impl.Hand{attentionHand(), mid, leaveHand(), low}, 1},
	}
	for _, c := range cases {
		if got := typed(t, input(false, 66), pile(), c.hands...); got != c.want {
			t.Errorf("typed after %v: to %d, not %d", c.hands, got, c.want)
		}
	}
}

// Of each two clicks the second one alone tells who gets what is typed.
func TestTypedAfterEachTwoClicks(t *testing.T) {
	stack := pile()
	owners := ownersByHand(stack)
	for _, first := range allClicks() {
		for place, second := range allClicks() {
			if got := typed(t, input(false, 66), stack, first, second); got != owners[place] {
				t.Fatalf("typed after %v, %v: to %d, not %d", first, second, got, owners[place])
			}
		}
	}
}

// A window that is hidden, moved away or covered keeps the focus; one that is dropped loses it.
func TestFocusBehindChanges(t *testing.T) {
	stack := pile()
	clicked := impl.RouteHand(input(false, 0), stack, clickHand(5, 2)).Input
	for _, turned := range [][]impl.Window{impl.MapWindow(stack, 130, false).Stack, impl.MoveWindow(stack, 130, 20, 20).Stack, impl.RaiseWindow(stack, 1).Stack, impl.DropWindow(stack, 1).Stack, impl.DropSlot(stack, 3).Stack} {
		if i := impl.LoseFocus(clicked, turned); i != clicked || typed(t, i, turned) != 130 {
			t.Errorf("130 is there, LoseFocus over %v = %v", turned, i)
		}
	}
	for _, turned := range [][]impl.Window{impl.DropWindow(stack, 130).Stack, impl.DropSlot(stack, 2).Stack, nil} {
		if got := impl.RouteHand(clicked, turned, keyHand(70)); !isNoRoute(got, impl.ErrNone) {
			t.Errorf("130 is dropped, RouteHand over %v = %v", turned, got)
		}
		if i := impl.LoseFocus(clicked, turned); i != input(false, 0) || typed(t, i, turned) != 0 {
			t.Errorf("130 is dropped, LoseFocus over %v = %v", turned, i)
		}
	}
}

func TestRightFoci(t *testing.T) {
	for _, stack := range append(rightStacks(), []impl.Window{}) {
		for _, focus := range fociOf(stack) {
			for _, i := range []impl.Input{input(false, focus), input(true, focus)} {
				if got := impl.InputFault(i, stack); got != impl.OK {
					t.Errorf("InputFault of %v, %v = %d", i, idsOfStack(stack), got)
				}
				if got := impl.LoseFocus(i, stack); got != i {
					t.Errorf("LoseFocus of %v, %v = %v", i, idsOfStack(stack), got)
				}
			}
		}
	}
}

// A focus that no window has is told ahead of what is wrong in a hand and of how many there are; it alone is lost, and not whether it is trusted.
func TestWrongFoci(t *testing.T) {
	hands := []impl.Hand{keyHand(70), clickHand(3, 3), attentionHand(), leaveHand(), hand(0, 0, 0), keyHand(256), clickHand(0, 8), hand(3, 0, 1)}
	for _, stack := range append(rightStacks(), []impl.Window{}) {
		for _, focus := range wrongFoci(stack) {
			for _, trusted := range []bool{false, true} {
				i := input(trusted, focus)
				if got := impl.InputFault(i, stack); got != impl.ErrNone {
					t.Errorf("InputFault of %v, %v = %d", i, idsOfStack(stack), got)
				}
				if got := impl.LoseFocus(i, stack); got != input(trusted, 0) {
					t.Errorf("LoseFocus of %v, %v = %v", i, idsOfStack(stack), got)
				}
				checkInputCode(t, i, stack, hands, impl.ErrNone)
			}
		}
	}
}

// checkInputCode asks that all hands, each alone and in runs, tell just that code.
func checkInputCode(t *testing.T, i impl.Input, stack []impl.Window, hands []impl.Hand, code int64) {
	t.Helper()
	for _, h := range hands {
		if got := impl.RouteHand(i, stack, h); !isNoRoute(got, code) {
			t.Errorf("RouteHand of %v, %d windows, %v = %v, not code %d", i, len(stack), h, got, code)
		}
	}
	for _, list := range [][]impl.Hand{nil, {}, hands[:1], hands, slices.Repeat(hands[:1], 21), slices.Repeat(hands[len(hands)-1:], 21)} {
		if got := impl.RouteMany(i, stack, list); !isNoInts(got, code) {
			t.Errorf("RouteMany of %v, %d windows, %v = %v, not code %d", i, len(stack), list, got, code)
		}
	}
}

// The stack is asked ahead of all else; over one that has a fault no focus is lost.
func TestInputWrongStacks(t *testing.T) {
	hands := []impl.Hand{keyHand(70), attentionHand(), hand(0, 0, 0), keyHand(256)}
	for number, w := range wrongStacks() {
		for _, focus := range []int64{0, 1, 130, 4, -1, math.MaxInt64, math.MinInt64} {
			i := input(number%2 == 0, focus)
			if got := impl.InputFault(i, w.stack); got != w.code {
				t.Errorf("InputFault of %v, %d, %v.. = %d, not %d", i, len(w.stack), w.stack[:min(3, len(w.stack))], got, w.code)
			}
			if got := impl.LoseFocus(i, w.stack); got != i {
				t.Errorf("LoseFocus of %v, %d, %v.. = %v", i, len(w.stack), w.stack[:min(3, len(w.stack))], got)
			}
		}
		checkInputCode(t, input(number%2 == 0, []int64{0, 1, 4}[number%3]), w.stack, hands, w.code)
	}
}

// Trusted or not, a hand that has a fault is told as such, and the input is not.
func TestRouteWrongHands(t *testing.T) {
	for _, stack := range [][]impl.Window{nil, pile(), fullStack()} {
		for _, focus := range fewFociOf(stack) {
			for _, trusted := range []bool{false, true} {
				for _, w := range wrongHands() {
					i := input(trusted, focus)
					if got := impl.RouteHand(i, stack, w.h); !isNoRoute(got, w.code) {
						t.Errorf("RouteHand of %v, %v, %v = %v, not code %d", i, idsOfStack(stack), w.h, got, w.code)
					}
				}
			}
		}
	}
}

func TestRouteManyByHand(t *testing.T) {
	low, mid, top, none, strip, key := clickHand(1, 1), clickHand(5, 2), clickHand(3, 3), clickHand(11, 7), clickHand(3, 0), keyHand(7)
	enter, leave := attentionHand(), leaveHand()
	cases := []struct {
		i    impl.Input
		list []impl.Hand
		want []int64
	}{
		{input(false, 0), nil, nil},
		{input(true, 66), []impl.Hand{}, nil},
		{input(false, 66), []impl.Hand{key}, []int64{66}},
		{input(true, 66), []impl.Hand{key}, []int64{0}},
		{input(false, 66), []impl.Hand{top}, []int64{194}},
		{input(false, 0), []impl.Hand{key, low, key, mid, key, top, key}, []int64{0, 1, 1, 130, 130, 194, 194}},
		{input(false, 1), []impl.Hand{key, none, key, mid, strip, key, top}, []int64{1, 0, 0, 130, 0, 0, 194}},
		{input(false, 0), []impl.Hand{mid, enter, key, top, key, leave, key, low, key}, []int64{130, 0, 0, 0, 0, 0, 130, 1, 1}},
		{input(true, 194), []impl.Hand{key, low, leave, key, leave, key, enter, enter, key}, []int64{0, 0, 0, 194, 0, 194, 0, 0, 0}},
		{input(true, 1), []impl.Hand{none, strip, leave, key, strip, key, enter, low, leave, key}, []int64{0, 0, 0, 1, 0, 0, 0, 0, 0, 0}},
	}
	for _, c := range cases {
		if got := impl.RouteMany(c.i, pile(), c.list); !isInts(got, c.want) {
			t.Errorf("RouteMany of %v, %v = %v, not %v", c.i, c.list, got, c.want)
		}
	}
}

// mixedHands has right hands of all kinds, stirred: of eight about four are clicks, two are keys, one is attention and one leave.
func mixedHands(seed, size int) []impl.Hand {
	var hands []impl.Hand
	number := uint32(seed*7919 + 5)
	for range size {
		number = number*1664525 + 1013904223
		a, b := int64(number>>12%12), int64(number>>20%8)
		switch number >> 8 % 8 {
		case 0, 1:
			hands = append(hands, keyHand(int64(number>>16%256)))
		case 2, 3, 4, 5:
			hands = append(hands, clickHand(a, b))
		case 6:
			hands = append(hands, attentionHand())
		case 7:
			hands = append(hands, leaveHand())
		}
	}
	return hands
}

// Runs of every length up to 20, over stacks of all kinds, from every input that there may be.
func TestRouteManyEveryLength(t *testing.T) {
	for number, stack := range append(rightStacks(), pile(), []impl.Window{}) {
		for size := range 21 {
			list := mixedHands(number*21+size, size)
			for _, focus := range fewFociOf(stack) {
				for _, trusted := range []bool{false, true} {
					i := input(trusted, focus)
					if got, want := impl.RouteMany(i, stack, list), targetsByHand(i, stack, list); !isInts(got, want) {
						t.Errorf("RouteMany of %v, %v, %v = %v, not %v", i, stack, list, got, want)
					}
				}
			}
		}
	}
}

// How many there are is asked ahead of what they are.
func TestRouteManyTooMany(t *testing.T) {
	for _, size := range []int{21, 22, 40, 255, 256, 257, 276, 1<<16 + 3} {
		for _, h := range []impl.Hand{keyHand(70), clickHand(3, 3), attentionHand(), hand(0, 0, 0), keyHand(256)} {
			for _, i := range []impl.Input{input(false, 0), input(true, 130), input(false, 66)} {
				if got := impl.RouteMany(i, pile(), slices.Repeat([]impl.Hand{h}, size)); !isNoInts(got, impl.ErrMany) {
					t.Errorf("RouteMany of %v, %d times %v = %v", i, size, h, got)
				}
			}
		}
	}
}

// A fault at each place is told, also in trusted mode, and of several ones the first.
func TestRouteManyWrongHands(t *testing.T) {
	for _, size := range []int{1, 2, 20} {
		for place := range size {
			for number, w := range wrongHands() {
				list := mixedHands(number, size)
				list[place] = w.h
				for _, i := range []impl.Input{input(false, 0), input(true, 130)} {
					if got := impl.RouteMany(i, pile(), list); !isNoInts(got, w.code) {
						t.Errorf("RouteMany of %v, %v = %v, not code %d", i, list, got, w.code)
					}
					for behind := place + 1; behind < size; behind += 6 {
						later := slices.Clone(list)
						later[behind] = wrongHands()[(number*7+behind)%len(wrongHands())].h
						if got := impl.RouteMany(i, pile(), later); !isNoInts(got, w.code) {
							t.Errorf("RouteMany of %v, %v = %v, not code %d", i, later, got, w.code)
						}
					}
				}
			}
		}
	}
}

// A run in two parts is what it is in one: what is kept between is the input alone.
func TestRouteManyInParts(t *testing.T) {
	stack := pile()
	for seed := range 40 {
		list := mixedHands(seed, 20)
		start := input(seed%2 == 1, fociOf(stack)[seed%5])
		i := start
		for cut := range 21 {
			first, second := impl.RouteMany(start, stack, list[:cut]), impl.RouteMany(i, stack, list[cut:])
			if got := impl.RouteMany(start, stack, list); !isInts(got, slices.Concat(first.List, second.List)) {
				t.Errorf("RouteMany of %v, %v = %v, cut at %d %v, %v", start, list, got, cut, first, second)
			}
			if cut < 20 {
				i = impl.RouteHand(i, stack, list[cut]).Input
			}
		}
	}
}

// spread brings windows onto the screen, and around its edges, in place: most of what is made lies far outside, and is not mapped.
func spread(stack []impl.Window) {
	for place := range stack {
		w := &stack[place]
		w.Rect.X, w.Rect.Y, w.Mapped = int64(place*5%14-2), int64(place*3%9-1), place%4 != 2
	}
}

func lostByHand(i impl.Input, stack []impl.Window) impl.Input {
	if slices.Contains(fociOf(stack), i.Focus) {
		return i
	}
	return input(i.Trusted, 0)
}

// Whatever the user does and windows do by turns: nobody gets anything while it is trusted, and no focus is left on what is gone.
func TestInputTurns(t *testing.T) {
	for seed := range 10 {
		stack, i := pile(), input(false, 0)
		for step, h := range mixedHands(seed, 600) {
			if turned, _ := stackTurn(stack, step*7919+seed); step%3 == 2 && turned.Code == impl.OK {
				stack = turned.Stack
			}
			if step%11 == 0 {
				spread(stack)
			}
			lost := impl.LoseFocus(i, stack)
			if want := lostByHand(i, stack); lost != want {
				t.Fatalf("seed %d, step %d: LoseFocus of %v, %v = %v, not %v", seed, step, i, idsOfStack(stack), lost, want)
			}
			got, want := impl.RouteHand(lost, stack, h), routeByHand(lost, stack, topsByHand(stack), h)
			if !sameRoutes(got, want) || lost.Trusted && (got.Target != 0 || got.Msg.Kind != 0) || impl.InputFault(got.Input, stack) != impl.OK {
				t.Fatalf("seed %d, step %d: RouteHand of %v, %v, %v = %v, not %v", seed, step, lost, stack, h, got, want)
			}
			i = got.Input
		}
	}
}

// What lies around a list, and behind its end, is as it was, too.
func TestInputChangesNoArgument(t *testing.T) {
	stacks := append(rightStacks(), pile())
	for _, w := range withSeveralFaults() {
		stacks = append(stacks, w.stack)
	}
	for number, stack := range stacks {
		inside, windows, cells := stackInMemory(stack)
		hands := slices.Concat([]impl.Hand{hand(9, 9, 9)}, mixedHands(number, 20), []impl.Hand{hand(9, 9, 9), hand(8, 8, 8)})
		wasWindows, wasCells, wasHands := cloneStack(windows), slices.Clone(cells), slices.Clone(hands)
		for _, focus := range append(fewFociOf(stack), 130, -1) {
			for size := range 22 {
				i := input(size%2 == 1, focus)
				impl.RouteMany(i, inside, hands[1:1+size])
				impl.RouteHand(i, inside, hands[size])
				impl.InputFault(i, inside)
				impl.LoseFocus(i, inside)
			}
		}
		if !sameStackByHand(windows, wasWindows) || !slices.Equal(cells, wasCells) || !slices.Equal(hands, wasHands) {
			t.Fatalf("%v, %v: changed to %v, %v, %v", wasWindows, wasHands, windows, cells, hands)
		}
	}
}

// An answer turns neither with an argument nor with another answer, and an argument not with an answer.
func TestRouteAnswersAreNew(t *testing.T) {
	for _, given := range append(rightStacks(), pile()) {
		for _, focus := range fewFociOf(given) {
			for _, h := range []impl.Hand{keyHand(70), clickHand(2, 3), clickHand(4, 2), clickHand(1, 1), attentionHand()} {
				stack, i := cloneStack(given), input(false, focus)
				want := routeByHand(i, given, topsByHand(given), h)
				turned, kept := impl.RouteHand(i, stack, h), impl.RouteHand(i, stack, h)
				overwriteBytes(turned.Msg.Body)
				_ = append(turned.Msg.Body, 77, 77, 77)
				if !sameStackByHand(stack, given) || !sameRoutes(kept, want) {
					t.Errorf("%v, %v: turned with an answer: %v, %v", given, h, stack, kept)
				}
				for _, w := range stack {
					overwriteInts(w.Cells)
				}
				overwriteWindows(stack)
				if !sameRoutes(kept, want) {
					t.Errorf("%v, %v: the answer turned with it: %v", given, h, kept)
				}
			}
		}
	}
}

func TestRouteManyAnswersAreNew(t *testing.T) {
	for number, given := range append(rightStacks(), pile()) {
		for _, size := range []int{1, 2, 5, 20} {
			stack, list := cloneStack(given), slices.Grow(mixedHands(number, size), 100)
			i, wasList := input(false, fewFociOf(given)[number%len(fewFociOf(given))]), slices.Clone(list)
			want := targetsByHand(i, given, list)
			turned, kept := impl.RouteMany(i, stack, list).List, impl.RouteMany(i, stack, list).List
			overwriteInts(turned)
			_ = append(turned, 77, 77, 77)
			if !sameStackByHand(stack, given) || !slices.Equal(list, wasList) || !slices.Equal(kept, want) {
				t.Errorf("%v, %v: turned with an answer: %v, %v, %v", given, wasList, stack, list, kept)
			}
			for _, w := range stack {
				overwriteInts(w.Cells)
			}
			overwriteWindows(stack)
			clear(list)
			if !slices.Equal(kept, want) {
				t.Errorf("%v, %v: the answer turned with it: %v", given, wasList, kept)
			}
		}
	}
}

// inputAnswers holds what the functions of the chapter answer at one set of arguments.
type inputAnswers struct {
	hand, fault int64
	lost        impl.Input
	routed      impl.RouteResult
	many        impl.IntsResult
}

func inputAnswersAt(i impl.Input, stack []impl.Window, list []impl.Hand) inputAnswers {
	return inputAnswers{hand: impl.HandFault(list[0]), fault: impl.InputFault(i, stack), lost: impl.LoseFocus(i, stack), routed: impl.RouteHand(i, stack, list[0]), many: impl.RouteMany(i, stack, list)}
}

func sameInputAnswers(a, b inputAnswers) bool {
	return a.hand == b.hand && a.fault == b.fault && a.lost == b.lost && sameRoutes(a.routed, b.routed) && a.many.Code == b.many.Code && slices.Equal(a.many.List, b.many.List)
}

// Asked again, in another order and with other calls between, every answer is the same.
func TestInputKeepsNothing(t *testing.T) {
	stacks := append(rightStacks(), pile())
	for _, w := range withSeveralFaults() {
		stacks = append(stacks, w.stack)
	}
	at := func(n int) inputAnswers {
		stack, list := stacks[n*7%len(stacks)], mixedHands(n, n%21+1)
		if n%5 == 0 {
			list[n%len(list)] = wrongHands()[n%len(wrongHands())].h
		}
		foci := append(fociOf(stack), 0, 4, -1)
		return inputAnswersAt(input(n%3 == 0, foci[n/2%len(foci)]), stack, list)
	}
	const turns = 5000
	var first []inputAnswers
	for n := range turns {
		first = append(first, at(n))
	}
	for n := turns - 1; n >= 0; n-- {
		if again := at(n); !sameInputAnswers(again, first[n]) {
			t.Errorf("at %d: first %v, then %v", n, first[n], again)
		}
	}
}
