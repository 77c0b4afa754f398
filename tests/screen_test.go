package tests

import (
	"math"
	"slices"
	"testing"

	"loop.example/g00545/impl"
)

// fourLabels differ from slot to slot: their banners are 256, 273, 294 and 319.
func fourLabels() []impl.Label {
	return []impl.Label{label(0, 0), label(1, 1), label(2, 6), label(3, 15)}
}

// labelLists has lists of labels of all kinds: alike, different, falling, one alone different.
func labelLists() [][]impl.Label {
	return [][]impl.Label{fourLabels(), slices.Repeat([]impl.Label{{}}, 4), slices.Repeat([]impl.Label{label(3, 15)}, 4),
		{label(3, 0), label(2, 8), label(1, 4), label(0, 2)}, {label(1, 5), label(1, 5), label(0, 15), label(1, 5)}}
}

// mixedStrip has a different number at each place, the least and the greatest one among them.
func mixedStrip() []int64 {
	return []int64{999, 1, 256, 0, 319, 400, 401, 255, 998, 65, 12, 500}
}

func stripsToShow() [][]int64 {
	return [][]int64{mixedStrip(), make([]int64, 12), slices.Repeat([]int64{999}, 12), impl.StripOf(1, 63, []int64{63, 0, 62, 1}).List, impl.StripOf(0, -1, nil).List}
}

func bannerByHand(labels []impl.Label, id int64) int64 {
	for slot, l := range labels {
		if isOfSlot(id, int64(slot)) {
			return 256 + 16*l.Level + l.Parts
		}
	}
	return -1
}

// rowsByHand tells what is at each point of the rows from 1 on, 0 where nothing is.
func rowsByHand(at map[point]int64) []int64 {
	var cells []int64
	for y := int64(1); y <= 7; y++ {
		for x := range int64(12) {
			cells = append(cells, at[point{x, y}])
		}
	}
	return cells
}

// screenByHand paints the mapped windows one over the other, out of the screen, too, and puts the strip over the first row.
func screenByHand(stack []impl.Window, labels []impl.Label, strip []int64) []int64 {
	painted := map[point]int64{}
	for _, w := range stack {
		if !w.Mapped {
			continue
		}
		for own, cell := range cellsByHand(w) {
			if own.y == 0 {
				cell = bannerByHand(labels, w.Id)
			}
			painted[point{w.Rect.X + own.x, w.Rect.Y + own.y}] = cell
		}
	}
	return slices.Concat(strip, rowsByHand(painted))
}

func ownersByHand(stack []impl.Window) []int64 {
	return slices.Concat(make([]int64, 12), rowsByHand(topsByHand(stack)))
}

func isScreen(got impl.ScreenResult, cells []int64) bool {
	return got.Code == impl.OK && slices.Equal(got.Cells, cells)
}

func isNoScreen(got impl.ScreenResult, code int64) bool {
	return got.Code == code && len(got.Cells) == 0
}

// checkScreen asks for what is told by hand, and that the owners are those that TopAt tells at each point.
func checkScreen(t *testing.T, stack []impl.Window, labels []impl.Label, strip []int64) {
	t.Helper()
	if got, want := impl.ScreenOf(stack, labels, strip), screenByHand(stack, labels, strip); !isScreen(got, want) {
		t.Fatalf("ScreenOf of %v, %v, %v = %v, not %v", stack, labels, strip, got, want)
	}
	owners := impl.OwnersOf(stack)
	if want := ownersByHand(stack); !isInts(owners, want) {
		t.Fatalf("OwnersOf of %v = %v, not %v", stack, owners, want)
	}
}

func checkEachTop(t *testing.T, stack []impl.Window) {
	t.Helper()
	owners := impl.OwnersOf(stack).List
	for place, id := range owners {
		x, y := int64(place%12), int64(place/12)
		want := impl.TopAt(stack, x, y).Value
		if y == 0 {
			want = 0
		}
		if id != want {
			t.Errorf("OwnersOf of %v at %d, %d: %d, not %d", stack, x, y, id, want)
		}
	}
}

func TestScreenNumbers(t *testing.T) {
	if impl.Banner != 256 || impl.Trusted != 400 || impl.ScreenWidth != 12 || impl.ScreenHeight != 8 {
		t.Errorf("Banner, Trusted, ScreenWidth, ScreenHeight: %d, %d, %d, %d", impl.Banner, impl.Trusted, impl.ScreenWidth, impl.ScreenHeight)
	}
}

// drawn is a stack with the rows from 1 on that the document asks of it: what they show, and whose it is.
type drawn struct {
	name  string
	stack []impl.Window
	rows  [7][12]int64
	owned [7][12]int64
}

// shownWindow is mapped, and its cells tell their rows by tens, from 10 on, and their columns by ones.
func shownWindow(id int64, r impl.Rect) impl.Window {
	w := impl.Window{Id: id, Rect: r, Mapped: true}
	for y := range r.Height {
		for x := range r.Width {
			w.Cells = append(w.Cells, 10*(y+1)+x)
		}
	}
	return w
}

func hiddenWindow(id int64, r impl.Rect) impl.Window {
	w := shownWindow(id, r)
	w.Mapped = false
	return w
}

// drawnByHand has pictures for fourLabels.
func drawnByHand() []drawn {
	return []drawn{
		{name: "nothing"},
		{name: "not mapped", stack: []impl.Window{hiddenWindow(1, rect(0, 0, 8, 6)), hiddenWindow(130, rect(5, 2, 8, 6))}},
		{name: "within", stack: []impl.Window{shownWindow(65, rect(2, 2, 3, 3))},
			rows:  [7][12]int64{{}, {0, 0, 273, 273, 273}, {0, 0, 20, 21, 22}, {0, 0, 30, 31, 32}},
			owned: [7][12]int64{{}, {0, 0, 65, 65, 65}, {0, 0, 65, 65, 65}, {0, 0, 65, 65, 65}}},
		{name: "first row in row 1", stack: []impl.Window{shownWindow(3, rect(9, 1, 3, 2))},
			rows:  [7][12]int64{{9: 256, 10: 256, 11: 256}, {9: 20, 10: 21, 11: 22}},
			owned: [7][12]int64{{9: 3, 10: 3, 11: 3}, {9: 3, 10: 3, 11: 3}}},
		{name: "first row behind the strip", stack: []impl.Window{shownWindow(131, rect(0, 0, 2, 3))},
			rows:  [7][12]int64{{20, 21}, {30, 31}},
			owned: [7][12]int64{{131, 131}, {131, 131}}},
		{name: "all of it behind the strip", stack: []impl.Window{shownWindow(1, rect(0, 0, 8, 1)), shownWindow(67, rect(8, -3, 4, 4))}},
		{name: "first row above the screen, out to the left", stack: []impl.Window{shownWindow(193, rect(-2, -1, 4, 4))},
			rows:  [7][12]int64{{32, 33}, {42, 43}},
			owned: [7][12]int64{{193, 193}, {193, 193}}},
		{name: "out to the right and below", stack: []impl.Window{shownWindow(195, rect(10, 6, 8, 6))},
			rows:  [7][12]int64{5: {10: 319, 11: 319}, 6: {10: 20, 11: 21}},
			owned: [7][12]int64{5: {10: 195, 11: 195}, 6: {10: 195, 11: 195}}},
		{name: "banner in the last row", stack: []impl.Window{shownWindow(129, rect(4, 7, 2, 5))},
			rows:  [7][12]int64{6: {4: 294, 5: 294}},
			owned: [7][12]int64{6: {4: 129, 5: 129}}},
		{name: "wholly outside", stack: []impl.Window{shownWindow(1, rect(12, 1, 8, 6)), shownWindow(2, rect(0, 8, 8, 6)), shownWindow(3, rect(-8, 1, 8, 6)), shownWindow(65, rect(0, -6, 8, 6))}},
		{name: "over one another", stack: []impl.Window{shownWindow(1, rect(1, 1, 4, 3)), hiddenWindow(66, rect(0, 0, 8, 6)), shownWindow(130, rect(3, 2, 3, 3)), shownWindow(194, rect(2, 3, 2, 1))},
			rows:  [7][12]int64{{0, 256, 256, 256, 256}, {0, 20, 21, 294, 294, 294}, {0, 30, 319, 319, 21, 22}, {0, 0, 0, 30, 31, 32}},
			owned: [7][12]int64{{0, 1, 1, 1, 1}, {0, 1, 1, 130, 130, 130}, {0, 1, 194, 194, 130, 130}, {0, 0, 0, 130, 130, 130}}},
	}
}

func flat(rows [7][12]int64) []int64 {
	var list []int64
	for _, row := range rows {
		list = append(list, row[:]...)
	}
	return list
}

func TestScreensByHand(t *testing.T) {
	for _, d := range drawnByHand() {
		for _, strip := range stripsToShow() {
			if got := impl.ScreenOf(d.stack, fourLabels(), strip); !isScreen(got, slices.Concat(strip, flat(d.rows))) {
				t.Errorf("%s: ScreenOf = %v, not %v, %v", d.name, got, strip, d.rows)
			}
		}
		if got := impl.OwnersOf(d.stack); !isInts(got, slices.Concat(make([]int64, 12), flat(d.owned))) {
			t.Errorf("%s: OwnersOf = %v, not %v", d.name, got, d.owned)
		}
		checkScreen(t, d.stack, fourLabels(), mixedStrip())
		checkEachTop(t, d.stack)
	}
}

// An empty list and nil are the same, and an empty stack shows the strip alone.
func TestScreenOfNothing(t *testing.T) {
	for _, stack := range [][]impl.Window{nil, {}} {
		for _, labels := range labelLists() {
			for _, strip := range stripsToShow() {
				if got := impl.ScreenOf(stack, labels, strip); !isScreen(got, slices.Concat(strip, make([]int64, 84))) {
					t.Errorf("ScreenOf of %v, %v, %v = %v", stack, labels, strip, got)
				}
			}
		}
		if got := impl.OwnersOf(stack); !isInts(got, make([]int64, 96)) {
			t.Errorf("OwnersOf of %v = %v", stack, got)
		}
	}
}

// One window of each size, mapped and not, at each place that there may be, of each slot in turn.
func TestScreenOfOneWindow(t *testing.T) {
	lists, strips, ids := labelLists(), stripsToShow(), allIds()
	for _, size := range []impl.Rect{rect(0, 0, 1, 1), rect(0, 0, 8, 1), rect(0, 0, 1, 6), rect(0, 0, 8, 6), rect(0, 0, 3, 2)} {
		for x := int64(-20); x <= 20; x++ {
			for y := int64(-20); y <= 20; y++ {
				number := int(41*(x+20) + y + 20)
				w := window(ids[number%12], rect(x, y, size.Width, size.Height), true, number)
				for _, mapped := range []bool{true, false} {
					w.Mapped = mapped
					checkScreen(t, []impl.Window{w}, lists[number%len(lists)], strips[number/12%len(strips)])
				}
			}
		}
	}
}

// Each place around the screen's edges: each point is asked of TopAt, too.
func TestOwnersAroundEdges(t *testing.T) {
	for _, size := range []impl.Rect{rect(0, 0, 1, 1), rect(0, 0, 8, 1), rect(0, 0, 1, 6), rect(0, 0, 8, 6)} {
		for _, x := range []int64{-20, -size.Width, 1 - size.Width, 0, 3, 12 - size.Width, 13 - size.Width, 11, 12, 20} {
			for _, y := range []int64{-20, -size.Height, 1 - size.Height, 2 - size.Height, -1, 0, 1, 8 - size.Height, 9 - size.Height, 7, 8, 20} {
				r := rect(x, y, size.Width, size.Height)
				checkEachTop(t, []impl.Window{window(66, r, true, 4)})
				checkEachTop(t, []impl.Window{shownWindow(1, rect(0, 0, 8, 6)), window(66, r, true, 4), window(67, r, false, 5)})
			}
		}
	}
}

func TestScreenOfRightStacks(t *testing.T) {
	for number, stack := range rightStacks() {
		shown := cloneStack(stack)
		for place := range shown {
			shown[place].Mapped = true
		}
		for turn, labels := range labelLists() {
			strip := stripsToShow()[(number+turn)%5]
			checkScreen(t, stack, labels, strip)
			checkScreen(t, shown, labels, strip)
		}
		checkEachTop(t, stack)
		checkEachTop(t, shown)
	}
}

// ordersOfFour has the places 0 to 3 in every order.
func ordersOfFour() [][4]int {
	var orders [][4]int
	for number := range 256 {
		order := [4]int{number / 64, number / 16 % 4, number / 4 % 4, number % 4}
		if sorted := slices.Sorted(slices.Values(order[:])); slices.Equal(sorted, []int{0, 1, 2, 3}) {
			orders = append(orders, order)
		}
	}
	return orders
}

// Windows of all four slots that lie over one another wholly, or in part, in every order and mapped in every way.
func TestScreenEachOnTop(t *testing.T) {
	for _, rects := range [][4]impl.Rect{
		{rect(2, 2, 3, 3), rect(2, 2, 3, 3), rect(2, 2, 3, 3), rect(2, 2, 3, 3)},
		{rect(1, 1, 8, 6), rect(2, 2, 5, 4), rect(3, 3, 3, 2), rect(4, 4, 1, 1)},
		{rect(0, 1, 8, 6), rect(4, 3, 8, 6), rect(6, 0, 3, 5), rect(-3, 4, 8, 2)},
		{rect(3, -1, 4, 3), rect(3, 0, 4, 3), rect(3, 1, 4, 3), rect(3, 2, 4, 3)},
		{rect(0, 0, 1, 6), rect(0, 3, 8, 1), rect(0, 1, 1, 1), rect(-20, -20, 8, 6)},
	} {
		for number, order := range ordersOfFour() {
			for mapped := range 16 {
				var stack []impl.Window
				for _, slot := range order {
					stack = append(stack, window(idsOfSlots[slot][number%3], rects[slot], mapped>>slot&1 == 1, slot))
				}
				checkScreen(t, stack, fourLabels(), mixedStrip())
				checkEachTop(t, stack)
			}
		}
	}
}

// A window that is raised shows its own banner, of its own slot's label, all along its first row.
func TestEachBannerOnTop(t *testing.T) {
	var stack []impl.Window
	for place, id := range ordersOf(allIds())[3] {
		stack = append(stack, window(id, rect(2, 1, int64(place%8+1), int64(place%6+1)), true, place))
	}
	for _, labels := range labelLists() {
		for _, w := range stack {
			cells := impl.ScreenOf(impl.RaiseWindow(stack, w.Id).Stack, labels, mixedStrip()).Cells
			for x := range w.Rect.Width {
				if cell := cells[12+2+x]; cell != bannerByHand(labels, w.Id) {
					t.Errorf("%d raised, labels %v: %d in its first row, not %d", w.Id, labels, cell, bannerByHand(labels, w.Id))
				}
			}
		}
	}
}

// The label of each slot turns the banners of its own windows, and nothing else.
func TestLabelsTurnBannersAlone(t *testing.T) {
	stack := []impl.Window{shownWindow(2, rect(0, 1, 2, 2)), shownWindow(66, rect(3, 1, 2, 2)), shownWindow(129, rect(6, 1, 2, 2)), shownWindow(195, rect(9, 1, 2, 2))}
	for slot := range 4 {
		for number, l := range allLabels() {
			labels := fourLabels()
			labels[slot] = l
			want := impl.ScreenOf(stack, fourLabels(), mixedStrip()).Cells
			want[12+3*slot], want[13+3*slot] = int64(256+number), int64(256+number)
			if got := impl.ScreenOf(stack, labels, mixedStrip()); !isScreen(got, want) {
				t.Errorf("slot %d of %v: %v, not %v", slot, l, got, want)
			}
		}
	}
}

// Whatever windows do, what is seen follows, and the strip stays.
func TestScreenBehindChanges(t *testing.T) {
	for seed := range 6 {
		var stack []impl.Window
		number := uint32(seed*7919 + 3)
		for step := range 300 {
			number = number*1664525 + 1013904223
			got, _ := stackTurn(stack, int(number>>8))
			if got.Code == impl.OK {
				stack = got.Stack
			}
			for place := range stack {
				if step%7 == 0 { // most of what is made lies far outside
					stack[place].Rect.X, stack[place].Rect.Y = int64(place*5%14-2), int64(place*3%9-1)
				}
			}
			if len(stack) > 0 {
				id := stack[int(number>>12)%len(stack)].Id
				stack = impl.FillWindow(stack, id, rect(int64(step%5-1), int64(step%4-1), 3, 2), int64(step%256)).Stack
			}
			checkScreen(t, stack, labelLists()[step%5], stripsToShow()[step/5%5])
		}
	}
}

// A strip may have any number of 0 to 999 at each place.
func TestStripIsTheFirstRow(t *testing.T) {
	for place := range 12 {
		for _, number := range []int64{0, 1, 255, 256, 319, 400, 401, 998, 999} {
			for _, other := range []int64{0, 500, 999} {
				strip := slices.Repeat([]int64{other}, 12)
				strip[place] = number
				checkScreen(t, fullStack(), fourLabels(), strip)
			}
		}
	}
}

func TestStripsByHand(t *testing.T) {
	cases := []struct {
		mode, focus int64
		asked       []int64
		want        []int64
	}{
		{1, 16, []int64{32}, []int64{401, 17, 1, 32, 0, 0, 0, 0, 0, 0, 0, 0}}, // the document's own
		{0, -1, nil, []int64{400, 0, 0, 0, 0, 0, 0, 0, 0, 0, 0, 0}},
		{0, -1, []int64{}, []int64{400, 0, 0, 0, 0, 0, 0, 0, 0, 0, 0, 0}},
		{1, 0, nil, []int64{401, 1, 0, 0, 0, 0, 0, 0, 0, 0, 0, 0}},
		{0, 63, []int64{0}, []int64{400, 64, 1, 0, 0, 0, 0, 0, 0, 0, 0, 0}},
		{1, -1, []int64{63, 62, 1, 0}, []int64{401, 0, 4, 63, 62, 1, 0, 0, 0, 0, 0, 0}},
		{1, 5, []int64{7, 7, 7, 7}, []int64{401, 6, 4, 7, 7, 7, 7, 0, 0, 0, 0, 0}},
		{0, 31, []int64{63, 0}, []int64{400, 32, 2, 63, 0, 0, 0, 0, 0, 0, 0, 0}},
	}
	for _, c := range cases {
		if got := impl.StripOf(c.mode, c.focus, c.asked); !isInts(got, c.want) {
			t.Errorf("StripOf of %d, %d, %v = %v, not %v", c.mode, c.focus, c.asked, got, c.want)
		}
	}
}

// askedLists has lists of every length from 0 to MaxSlots, with each number of 0 to 63 at each place.
func askedLists() [][]int64 {
	lists := [][]int64{nil}
	for size := 1; size <= 4; size++ {
		for place := range size {
			for code := range int64(64) {
				asked := []int64{63, 0, 17, 32}[:size]
				asked[place] = code
				lists = append(lists, asked)
			}
		}
	}
	return lists
}

// A strip tells all that it was made of, and may be shown.
func TestStripOfEverywhere(t *testing.T) {
	for number, asked := range askedLists() {
		for mode := range int64(2) {
			for focus := int64(-1); focus <= 63; focus++ {
				want := slices.Concat([]int64{400 + mode, focus + 1, int64(len(asked))}, asked, make([]int64, 9-len(asked)))
				got := impl.StripOf(mode, focus, asked)
				if !isInts(got, want) {
					t.Fatalf("StripOf of %d, %d, %v = %v, not %v", mode, focus, asked, got, want)
				}
				if focus == int64(number%64) {
					checkScreen(t, fullStack(), fourLabels(), got.List)
				}
			}
		}
	}
}

func wrongModes() []int64 {
	return []int64{-1, 2, -2, 3, 255, 256, 257, -255, 400, 401, 1 << 32, 1<<32 + 1, -1 << 32, math.MaxInt64, math.MaxInt64 - 1, math.MinInt64, math.MinInt64 + 1}
}

func wrongCodes() []int64 {
	return []int64{64, -2, -3, -64, 65, 127, 128, 255, 256, 257, -256, 1 << 32, 1<<32 + 5, -1 << 32, -1<<32 + 63, math.MaxInt64, math.MaxInt64 - 1, math.MinInt64, math.MinInt64 + 1}
}

// The mode and the focus are asked ahead of how many are asked, and that ahead of what they are.
func TestStripOfWrongNumbers(t *testing.T) {
	lists := [][]int64{nil, {0}, {63, 0, 63, 0}, {64}, {-1, 5}, {1, 2, 3, 4, 5}, {-1, -1, -1, -1, -1}}
	for _, asked := range lists {
		for _, mode := range wrongModes() {
			for _, focus := range append(wrongCodes(), -1, 0, 63) {
				if got := impl.StripOf(mode, focus, asked); !isNoInts(got, impl.ErrRange) {
					t.Errorf("StripOf of %d, %d, %v = %v", mode, focus, asked, got)
				}
			}
		}
		for _, focus := range wrongCodes() {
			for mode := range int64(2) {
				if got := impl.StripOf(mode, focus, asked); !isNoInts(got, impl.ErrRange) {
					t.Errorf("StripOf of %d, %d, %v = %v", mode, focus, asked, got)
				}
			}
		}
	}
}

func TestStripOfTooManyAsked(t *testing.T) {
	for _, size := range []int{5, 6, 9, 10, 12, 255, 256, 257, 260, 1<<16 + 4} {
		for _, code := range []int64{0, 63, 64, -1, math.MinInt64} {
			for mode := range int64(2) {
				for _, focus := range []int64{-1, 0, 63} {
					if got := impl.StripOf(mode, focus, slices.Repeat([]int64{code}, size)); !isNoInts(got, impl.ErrMany) {
						t.Errorf("StripOf of %d, %d, %d times %d = %v", mode, focus, size, code, got)
					}
				}
			}
		}
	}
}

func TestStripOfWrongAsked(t *testing.T) {
	for size := 1; size <= 4; size++ {
		for place := range size {
			for _, code := range append(wrongCodes(), -1) {
				asked := []int64{63, 0, 17, 32}[:size]
				asked[place] = code
				for _, focus := range []int64{-1, 0, 63} {
					if got := impl.StripOf(int64(place%2), focus, asked); !isNoInts(got, impl.ErrRange) {
						t.Errorf("StripOf of %d, %d, %v = %v", place%2, focus, asked, got)
					}
				}
			}
		}
	}
}

func TestBannerOf(t *testing.T) {
	for number, l := range allLabels() {
		if got := impl.BannerOf(l); got != (impl.IntResult{Value: int64(256 + number)}) {
			t.Errorf("BannerOf(%v) = %v, not %d", l, got, 256+number)
		}
	}
	for _, l := range wrongLabels() {
		if got := impl.BannerOf(l); got != (impl.IntResult{Code: impl.ErrRange}) {
			t.Errorf("BannerOf(%v) = %v", l, got)
		}
	}
	for l, want := range map[impl.Label]int64{label(0, 0): 256, label(1, 1): 273, label(2, 5): 293, label(0, 15): 271, label(3, 0): 304, label(3, 15): 319} {
		if got := impl.BannerOf(l); got != (impl.IntResult{Value: want}) {
			t.Errorf("BannerOf(%v) = %v, not %d", l, got, want)
		}
	}
}

// wrongLabelList is a list of labels with the code that the document asks of it.
type wrongLabelList struct {
	labels []impl.Label
	code   int64
}

// wrongLabelLists has too few and too many, of right ones and of wrong ones, and wrong ones at each place.
func wrongLabelLists() []wrongLabelList {
	var list []wrongLabelList
	for _, size := range []int{0, 1, 2, 3, 5, 6, 8, 255, 256, 260, 1<<16 + 4} {
		for _, l := range []impl.Label{label(0, 0), label(3, 15), label(4, 0), label(0, -1)} {
			list = append(list, wrongLabelList{slices.Repeat([]impl.Label{l}, size), impl.ErrMany})
		}
	}
	list = append(list, wrongLabelList{nil, impl.ErrMany}, wrongLabelList{append(fourLabels(), label(4, 16)), impl.ErrMany}, wrongLabelList{fourLabels()[:3], impl.ErrMany})
	for _, wrong := range wrongLabels() {
		for place := range 4 {
			labels := fourLabels()
			labels[place] = wrong
			list = append(list, wrongLabelList{labels, impl.ErrRange})
		}
		list = append(list, wrongLabelList{slices.Repeat([]impl.Label{wrong}, 4), impl.ErrRange})
	}
	return list
}

func TestLabelsFault(t *testing.T) {
	for _, labels := range labelLists() {
		if got := impl.LabelsFault(labels); got != impl.OK {
			t.Errorf("LabelsFault(%v) = %d", labels, got)
		}
	}
	for _, l := range allLabels() {
		for place := range 4 {
			labels := fourLabels()
			labels[place] = l
			if got := impl.LabelsFault(labels); got != impl.OK {
				t.Errorf("LabelsFault(%v) = %d", labels, got)
			}
		}
	}
	for _, w := range wrongLabelLists() {
		if got := impl.LabelsFault(w.labels); got != w.code {
			t.Errorf("LabelsFault of %d, %v.. = %d, not %d", len(w.labels), w.labels[:min(4, len(w.labels))], got, w.code)
		}
	}
}

// wrongStrip is a strip with the code that the document asks of it.
type wrongStrip struct {
	strip []int64
	code  int64
}

func wrongInStrip() []int64 {
	return []int64{-1, 1000, -2, 1001, -999, -1000, 1024, 1 << 16, 1 << 32, 1<<32 + 5, -1 << 32, -1<<32 + 999, math.MaxInt64, math.MaxInt64 - 1, math.MinInt64, math.MinInt64 + 1}
}

func wrongStripLists() []wrongStrip {
	list := []wrongStrip{{nil, impl.ErrMany}}
	for _, size := range []int{0, 1, 11, 13, 8, 24, 96, 256, 268, 1<<16 + 12} {
		for _, number := range []int64{0, 999, -1, 1000} {
			list = append(list, wrongStrip{slices.Repeat([]int64{number}, size), impl.ErrMany})
		}
	}
	list = append(list, wrongStrip{mixedStrip()[:11], impl.ErrMany}, wrongStrip{append(mixedStrip(), 0), impl.ErrMany}, wrongStrip{append(mixedStrip(), 1000), impl.ErrMany})
	for place := range 12 {
		for _, wrong := range wrongInStrip() {
			strip := mixedStrip()
			strip[place] = wrong
			list = append(list, wrongStrip{strip, impl.ErrRange})
		}
	}
	return list
}

func TestScreenWrongStrips(t *testing.T) {
	for _, stack := range [][]impl.Window{nil, fullStack()[:3], fullStack()} {
		for _, labels := range labelLists() {
			for _, w := range wrongStripLists() {
				if got := impl.ScreenOf(stack, labels, w.strip); !isNoScreen(got, w.code) {
					t.Errorf("ScreenOf of %d windows, %v, %d numbers, %v.. = %v, not code %d", len(stack), labels, len(w.strip), w.strip[:min(12, len(w.strip))], got, w.code)
				}
			}
		}
	}
}

// fewStrips has strips that are right, too many, too few and out of range.
func fewStrips() [][]int64 {
	outOfRange := mixedStrip()
	outOfRange[5] = 1000
	return [][]int64{mixedStrip(), nil, append(mixedStrip(), 0), outOfRange}
}

// The labels are asked ahead of the strip.
func TestScreenWrongLabels(t *testing.T) {
	for _, stack := range [][]impl.Window{nil, fullStack()[:3], fullStack()} {
		for _, w := range wrongLabelLists() {
			for _, strip := range fewStrips() {
				if got := impl.ScreenOf(stack, w.labels, strip); !isNoScreen(got, w.code) {
					t.Errorf("ScreenOf of %d windows, %d labels, %v.., %v = %v, not code %d", len(stack), len(w.labels), w.labels[:min(4, len(w.labels))], strip, got, w.code)
				}
			}
		}
	}
}

// The stack is asked ahead of the labels and of the strip.
func TestScreenWrongStacks(t *testing.T) {
	wrongLabel := fourLabels()
	wrongLabel[3] = label(0, 16)
	for _, w := range wrongStacks() {
		for _, labels := range [][]impl.Label{fourLabels(), nil, append(fourLabels(), label(0, 0)), wrongLabel} {
			for _, strip := range fewStrips() {
				if got := impl.ScreenOf(w.stack, labels, strip); !isNoScreen(got, w.code) {
					t.Errorf("ScreenOf of %d, %v.., %v, %v = %v, not code %d", len(w.stack), w.stack[:min(3, len(w.stack))], labels, strip, got, w.code)
				}
			}
		}
		if got := impl.OwnersOf(w.stack); !isNoInts(got, w.code) {
			t.Errorf("OwnersOf of %d, %v.. = %v, not code %d", len(w.stack), w.stack[:min(3, len(w.stack))], got, w.code)
		}
	}
}

// screenGiven is all that ScreenOf is given, as parts of longer memories.
type screenGiven struct {
	windows []impl.Window
	cells   []int64
	labels  []impl.Label
	strip   []int64
}

func cloneGiven(g screenGiven) screenGiven {
	return screenGiven{cloneStack(g.windows), slices.Clone(g.cells), slices.Clone(g.labels), slices.Clone(g.strip)}
}

func sameGiven(a, b screenGiven) bool {
	return sameStackByHand(a.windows, b.windows) && slices.Equal(a.cells, b.cells) && slices.Equal(a.labels, b.labels) && slices.Equal(a.strip, b.strip)
}

// What lies around a list, and behind its end, is as it was, too.
func TestScreenChangesNoArgument(t *testing.T) {
	stacks := rightStacks()
	for _, w := range withSeveralFaults() {
		stacks = append(stacks, w.stack)
	}
	for number, stack := range stacks {
		inside, windows, cells := stackInMemory(stack)
		labels := slices.Concat([]impl.Label{label(9, 9)}, labelLists()[number%5], []impl.Label{label(9, 9), label(8, 8)})
		strip := slices.Concat([]int64{7, 7}, fewStrips()[number%4], make([]int64, 100))
		g := screenGiven{windows, cells, labels, strip}
		was := cloneGiven(g)
		for size := range 6 {
			impl.ScreenOf(inside, labels[1:1+size], strip[2:14])
			impl.LabelsFault(labels[1 : 1+size])
			impl.StripOf(1, int64(size), strip[2:2+size])
			impl.StripOf(0, 3, strip[20:20+size])
		}
		impl.ScreenOf(inside, labels[1:5], strip[2:14])
		impl.ScreenOf(inside, labels[1:5], strip[20:32])
		impl.OwnersOf(inside)
		if !sameGiven(g, was) {
			t.Fatalf("%v: changed to %v", was, g)
		}
	}
}

func TestScreenAnswersAreNew(t *testing.T) {
	for number, given := range rightStacks() {
		stack, labels, strip := cloneStack(given), labelLists()[number%5], slices.Grow(stripsToShow()[number%5], 100)
		wasLabels, wasStrip := slices.Clone(labels), slices.Clone(strip)
		screen, other := impl.ScreenOf(stack, labels, strip).Cells, impl.ScreenOf(stack, labels, strip).Cells
		owners, otherOwners := impl.OwnersOf(stack).List, impl.OwnersOf(stack).List
		overwriteInts(screen)
		overwriteInts(owners)
		_, _ = append(screen, 77, 77), append(owners, 77, 77)
		wantScreen, wantOwners := screenByHand(given, wasLabels, wasStrip), ownersByHand(given)
		if !sameStackByHand(stack, given) || !slices.Equal(labels, wasLabels) || !slices.Equal(strip, wasStrip) || !slices.Equal(other, wantScreen) || !slices.Equal(otherOwners, wantOwners) {
			t.Errorf("%v: turned with an answer: %v, %v, %v, %v", given, stack, strip, other, otherOwners)
		}
		for _, w := range stack {
			overwriteInts(w.Cells)
		}
		overwriteWindows(stack)
		overwriteInts(strip)
		clear(labels)
		if !slices.Equal(other, wantScreen) || !slices.Equal(otherOwners, wantOwners) {
			t.Errorf("%v: the answer turned with it: %v, %v", given, other, otherOwners)
		}
	}
}

func TestStripAnswersAreNew(t *testing.T) {
	for size := range 5 {
		memory := []int64{63, 1, 17, 32, 9, 9, 9, 9, 9, 9, 9, 9, 9, 9, 9, 9}
		asked, was := memory[:size], slices.Clone(memory)
		one, other := impl.StripOf(1, 5, asked).List, impl.StripOf(1, 5, asked).List
		want := slices.Clone(other)
		overwriteInts(one)
		_ = append(one, 77, 77, 77)
		if !slices.Equal(memory, was) || !slices.Equal(other, want) {
			t.Errorf("%d asked: turned with an answer: %v, %v", size, memory, other)
		}
		overwriteInts(memory)
		if !slices.Equal(other, want) {
			t.Errorf("%d asked: the answer turned with it: %v", size, other)
		}
	}
}

// Windows whose cells are one memory are seen as those that have their own.
func TestScreenWithSharedCells(t *testing.T) {
	memory := cellsFrom(5, 12)
	stack := []impl.Window{{Id: 1, Rect: rect(0, 0, 3, 2), Mapped: true, Cells: memory[:6]}, {Id: 65, Rect: rect(1, 1, 2, 3), Mapped: true, Cells: memory[:6]},
		{Id: 195, Rect: rect(4, 1, 3, 2), Mapped: true, Cells: memory[6:]}}
	checkScreen(t, stack, fourLabels(), mixedStrip())
	checkScreen(t, stack, fourLabels(), memory)
	if !slices.Equal(memory, cellsFrom(5, 12)) {
		t.Errorf("the shared cells turned to %v", memory)
	}
}

// screenAnswers holds what the functions of the chapter answer at one set of arguments.
type screenAnswers struct {
	screen        impl.ScreenResult
	strip, owners impl.IntsResult
	banner        impl.IntResult
	fault         int64
}

func screenAnswersAt(stack []impl.Window, labels []impl.Label, strip []int64, number int64) screenAnswers {
	answers := screenAnswers{
		screen: impl.ScreenOf(stack, labels, strip),
		strip:  impl.StripOf(number%4-1, number%67-2, strip[:min(int(number%6), len(strip))]),
		owners: impl.OwnersOf(stack),
		fault:  impl.LabelsFault(labels),
	}
	if len(labels) > 0 {
		answers.banner = impl.BannerOf(labels[0])
	}
	return answers
}

func sameScreenAnswers(a, b screenAnswers) bool {
	return a.screen.Code == b.screen.Code && slices.Equal(a.screen.Cells, b.screen.Cells) && a.strip.Code == b.strip.Code && slices.Equal(a.strip.List, b.strip.List) &&
		a.owners.Code == b.owners.Code && slices.Equal(a.owners.List, b.owners.List) && a.banner == b.banner && a.fault == b.fault
}

// Asked again, in another order and with other calls between, every answer is the same.
func TestScreenKeepsNothing(t *testing.T) {
	stacks, strips := rightStacks(), append(stripsToShow(), fewStrips()...)
	for _, w := range withSeveralFaults() {
		stacks = append(stacks, w.stack)
	}
	lists := append(labelLists(), nil, fourLabels()[:3], []impl.Label{label(4, 0), {}, {}, {}})
	at := func(i int) screenAnswers {
		return screenAnswersAt(stacks[i*7%len(stacks)], lists[i/3%len(lists)], strips[i/2%len(strips)], int64(i))
	}
	const turns = 5000
	var first []screenAnswers
	for i := range turns {
		first = append(first, at(i))
	}
	for i := turns - 1; i >= 0; i-- {
		if again := at(i); !sameScreenAnswers(again, first[i]) {
			t.Errorf("at %d: first %v, then %v", i, first[i], again)
		}
	}
}
