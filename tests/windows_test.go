package tests

import (
	"math"
	"slices"
	"testing"

	"loop.example/g00545/impl"
)

// windowRects has a rectangle for each place of a full stack: some lie over one another, some have their numbers at the bounds.
var windowRects = [12]impl.Rect{
	{X: 0, Y: 0, Width: 8, Height: 6},
	{X: 3, Y: 2, Width: 4, Height: 3},
	{X: -20, Y: -20, Width: 1, Height: 1},
	{X: 20, Y: 20, Width: 8, Height: 6},
	{X: 2, Y: 1, Width: 3, Height: 2},
	{X: -20, Y: 20, Width: 8, Height: 1},
	{X: 20, Y: -20, Width: 1, Height: 6},
	{X: 5, Y: -2, Width: 2, Height: 6},
	{X: -3, Y: 3, Width: 8, Height: 2},
	{X: 3, Y: 2, Width: 4, Height: 3},
	{X: -19, Y: 19, Width: 3, Height: 4},
	{X: 19, Y: 19, Width: 5, Height: 5},
}

// cellsFrom has different cells for different seeds, 0 and 255 among them.
func cellsFrom(seed, size int) []int64 {
	var cells []int64
	for place := range size {
		cells = append(cells, int64((seed*51+place*17)%256))
	}
	return cells
}

func window(id int64, r impl.Rect, mapped bool, seed int) impl.Window {
	return impl.Window{Id: id, Rect: r, Mapped: mapped, Cells: cellsFrom(seed, int(r.Width*r.Height))}
}

// pointWindow is the least window that is right.
func pointWindow(id int64) impl.Window {
	return impl.Window{Id: id, Rect: rect(0, 0, 1, 1), Cells: []int64{7}}
}

// stackOfIds has a window for each id, of different rectangles and cells; two of three are mapped.
func stackOfIds(ids []int64) []impl.Window {
	var stack []impl.Window
	for place, id := range ids {
		stack = append(stack, window(id, windowRects[place%12], place%3 != 1, place))
	}
	return stack
}

func pointsOfIds(ids []int64) []impl.Window {
	var stack []impl.Window
	for _, id := range ids {
		stack = append(stack, pointWindow(id))
	}
	return stack
}

func idsOfStack(stack []impl.Window) []int64 {
	var ids []int64
	for _, w := range stack {
		ids = append(ids, w.Id)
	}
	return ids
}

func fullStack() []impl.Window {
	return stackOfIds(ordersOf(allIds())[3])
}

// rightStacks has stacks of every length from 0 to 12, in several orders of their ids.
func rightStacks() [][]impl.Window {
	var stacks [][]impl.Window
	for _, ids := range ordersOf(allIds()) {
		for size := range 13 {
			stacks = append(stacks, stackOfIds(ids[:size]))
		}
	}
	return stacks
}

func cloneStack(stack []impl.Window) []impl.Window {
	cloned := slices.Clone(stack)
	for place := range cloned {
		cloned[place].Cells = slices.Clone(cloned[place].Cells)
	}
	return cloned
}

func cloneStackResult(r impl.StackResult) impl.StackResult {
	r.Stack = cloneStack(r.Stack)
	return r
}

func sameWindowByHand(a, b impl.Window) bool {
	return a.Id == b.Id && a.Rect.X == b.Rect.X && a.Rect.Y == b.Rect.Y && a.Rect.Width == b.Rect.Width && a.Rect.Height == b.Rect.Height &&
		a.Mapped == b.Mapped && slices.Equal(a.Cells, b.Cells)
}

func sameStackByHand(a, b []impl.Window) bool {
	return slices.EqualFunc(a, b, sameWindowByHand)
}

func sameStackResults(a, b impl.StackResult) bool {
	return a.Code == b.Code && a.Value == b.Value && sameStackByHand(a.Stack, b.Stack)
}

func isStack(got impl.StackResult, value int64, stack []impl.Window) bool {
	return sameStackResults(got, impl.StackResult{Value: value, Stack: stack})
}

func isNoStack(got impl.StackResult, code int64) bool {
	return sameStackResults(got, impl.StackResult{Code: code})
}

// The following ones tell by hand what a function is asked for, on a stack of its own.

func madeByHand(stack []impl.Window, id int64, r impl.Rect) []impl.Window {
	return append(cloneStack(stack), impl.Window{Id: id, Rect: r, Cells: make([]int64, r.Width*r.Height)})
}

func droppedByHand(stack []impl.Window, place int) []impl.Window {
	return slices.Delete(cloneStack(stack), place, place+1)
}

func raisedByHand(stack []impl.Window, place int) []impl.Window {
	return append(droppedByHand(stack, place), cloneStack(stack)[place])
}

func mappedByHand(stack []impl.Window, place int, on bool) []impl.Window {
	mapped := cloneStack(stack)
	mapped[place].Mapped = on
	return mapped
}

func movedByHand(stack []impl.Window, place int, x, y int64) []impl.Window {
	moved := cloneStack(stack)
	moved[place].Rect.X, moved[place].Rect.Y = x, y
	return moved
}

func slotDroppedByHand(stack []impl.Window, slot int64) (left []impl.Window, gone int64) {
	for _, w := range cloneStack(stack) {
		if isOfSlot(w.Id, slot) {
			gone++
		} else {
			left = append(left, w)
		}
	}
	return left, gone
}

// topsByHand paints the mapped windows one over the other: at each point stays the topmost one.
func topsByHand(stack []impl.Window) map[point]int64 {
	tops := map[point]int64{}
	for _, w := range stack {
		if w.Mapped {
			for p := range pointsIn(w.Rect) {
				tops[p] = w.Id
			}
		}
	}
	return tops
}

func topByHand(tops map[point]int64, x, y int64) impl.IntResult {
	if id, there := tops[point{x, y}]; there {
		return impl.IntResult{Value: id}
	}
	return impl.IntResult{Code: impl.ErrNone}
}

// wrongWindow is a window with the code that the document asks of it.
type wrongWindow struct {
	w    impl.Window
	code int64
}

func tooGreatRects() []impl.Rect {
	return []impl.Rect{rect(0, 0, 9, 6), rect(0, 0, 8, 7), rect(0, 0, 9, 7), rect(-20, 20, 9, 1), rect(20, -20, 1, 7), rect(3, 3, 20, 1),
		rect(3, 3, 1, 20), rect(0, 0, 20, 20), rect(0, 0, 6, 8), rect(0, 0, 16, 3), rect(0, 0, 4, 12), rect(0, 0, 10, 6), rect(0, 0, 8, 8)}
}

// withWrongRects has every wrong rectangle with several Cells: the rectangle is asked ahead of how many they are and of what they are.
func withWrongRects(id int64) []wrongWindow {
	var list []wrongWindow
	for _, r := range append(wrongRects(), tooGreatRects()...) {
		for _, cells := range [][]int64{nil, {0}, {-1}, cellsFrom(1, 48), slices.Repeat([]int64{256}, 49)} {
			list = append(list, wrongWindow{impl.Window{Id: id, Rect: r, Cells: cells}, impl.ErrRange})
		}
	}
	for _, r := range tooGreatRects() {
		list = append(list, wrongWindow{window(id, r, true, 3), impl.ErrRange})
	}
	return list
}

// withWrongSizes has too few Cells and too many, right ones and wrong ones: how many there are is asked ahead of what they are.
func withWrongSizes(id int64) []wrongWindow {
	var list []wrongWindow
	for _, r := range []impl.Rect{rect(0, 0, 1, 1), rect(1, 1, 8, 6), rect(-20, 20, 8, 1), rect(20, -20, 1, 6), rect(5, 5, 3, 2)} {
		size := int(r.Width * r.Height)
		for _, wrong := range []int{0, 1, size - 1, size + 1, 2 * size, size + 256, size + 1<<16} {
			if wrong == size {
				continue
			}
			for _, cells := range [][]int64{cellsFrom(2, wrong), slices.Repeat([]int64{-1}, wrong), slices.Repeat([]int64{256}, wrong)} {
				list = append(list, wrongWindow{impl.Window{Id: id, Rect: r, Mapped: true, Cells: cells}, impl.ErrMany})
			}
		}
	}
	return list
}

func wrongCellValues() []int64 {
	return []int64{-1, 256, -2, 257, 1000, -255, -256, 1 << 16, 1<<32 + 7, -1 << 32, math.MaxInt64, math.MaxInt64 - 1, math.MinInt64, math.MinInt64 + 1}
}

func withWrongCells(id int64) []wrongWindow {
	var list []wrongWindow
	for _, wrong := range wrongCellValues() {
		for _, r := range []impl.Rect{rect(0, 0, 1, 1), rect(20, 20, 8, 6), rect(1, 0, 3, 2)} {
			size := int(r.Width * r.Height)
			for _, place := range []int{0, size / 2, size - 1} {
				w := window(id, r, place > 0, place)
				w.Cells[place] = wrong
				list = append(list, wrongWindow{w, impl.ErrRange})
			}
		}
	}
	return list
}

func wrongWindows(id int64) []wrongWindow {
	return slices.Concat(withWrongRects(id), withWrongSizes(id), withWrongCells(id))
}

// wrongStack is a stack with the code that the document asks of it.
type wrongStack struct {
	stack []impl.Window
	code  int64
}

// withWrongWindow has a wrong window at several places of stacks, the right ones around it.
func withWrongWindow() []wrongStack {
	var list []wrongStack
	for _, size := range []int{1, 2, 12} {
		for _, place := range slices.Compact([]int{0, size / 2, size - 1}) {
			stack := fullStack()[:size]
			for _, wrong := range wrongWindows(stack[place].Id) {
				turned := slices.Clone(stack)
				turned[place] = wrong.w
				list = append(list, wrongStack{turned, wrong.code})
			}
		}
	}
	return list
}

// withWrongStackIds has wrong lists of ids: of right windows and of wrong ones, as all ids are asked ahead of all else.
func withWrongStackIds() []wrongStack {
	var list []wrongStack
	for _, w := range wrongLists() {
		right, wrong := pointsOfIds(w.used), pointsOfIds(w.used)
		for place := range wrong {
			wrong[place].Cells = nil
		}
		wrongFirst := slices.Clone(right)
		wrongFirst[0].Rect.Width = 9
		list = append(list, wrongStack{right, w.code}, wrongStack{wrong, w.code}, wrongStack{wrongFirst, w.code})
	}
	return list
}

// withSeveralFaults has stacks of several faults: ids go ahead of windows, and all of a window ahead of the next one.
func withSeveralFaults() []wrongStack {
	noCells, badCell, badRect, tooWide, right := pointWindow(65), pointWindow(66), pointWindow(67), pointWindow(2), pointWindow(1)
	noCells.Cells = nil
	badCell.Cells = []int64{256}
	badRect.Rect.X = 21
	tooWide.Rect.Width = 9
	twice, unknown := pointWindow(1), pointWindow(4)
	rectAndCells := impl.Window{Id: 129, Rect: rect(0, 21, 1, 1), Cells: []int64{1, 2}}
	return []wrongStack{
		{[]impl.Window{noCells, badCell}, impl.ErrMany},
		{[]impl.Window{badCell, noCells}, impl.ErrRange},
		{[]impl.Window{noCells, badRect}, impl.ErrMany},
		{[]impl.Window{badRect, noCells}, impl.ErrRange},
		{[]impl.Window{noCells, tooWide}, impl.ErrMany},
		{[]impl.Window{tooWide, noCells}, impl.ErrRange},
		{[]impl.Window{right, noCells, badCell, tooWide}, impl.ErrMany},
		{[]impl.Window{right, badCell, noCells, tooWide}, impl.ErrRange},
		{[]impl.Window{rectAndCells, noCells}, impl.ErrRange},
		{[]impl.Window{noCells, rectAndCells}, impl.ErrMany},
		{[]impl.Window{noCells, right, twice}, impl.ErrState},
		{[]impl.Window{badRect, right, twice}, impl.ErrState},
		{[]impl.Window{badCell, noCells, right, tooWide, twice}, impl.ErrState},
		{[]impl.Window{noCells, right, unknown}, impl.ErrRange},
		{[]impl.Window{noCells, right, unknown, twice}, impl.ErrRange},
		{[]impl.Window{noCells, right, twice, unknown}, impl.ErrState},
		{[]impl.Window{noCells, noCells}, impl.ErrState},
		{append(fullStack(), badCell), impl.ErrMany},
		{append([]impl.Window{badRect}, fullStack()...), impl.ErrMany},
		{append([]impl.Window{unknown}, fullStack()...), impl.ErrMany},
	}
}

func wrongStacks() []wrongStack {
	return slices.Concat(withSeveralFaults(), withWrongStackIds(), withWrongWindow())
}

func TestWindowConstants(t *testing.T) {
	if impl.MaxWide != 8 || impl.MaxHigh != 6 {
		t.Errorf("MaxWide, MaxHigh: %d, %d", impl.MaxWide, impl.MaxHigh)
	}
}

func TestStackFaultRight(t *testing.T) {
	stacks := append(rightStacks(), nil, []impl.Window{})
	for _, place := range []int64{-20, -19, 0, 19, 20} {
		for width := range int64(8) {
			for height := range int64(6) {
				stacks = append(stacks, []impl.Window{window(195, rect(place, -place, width+1, height+1), true, 1)})
			}
		}
	}
	for _, cell := range []int64{0, 1, 254, 255} {
		w := window(1, rect(0, 0, 8, 6), false, 0)
		w.Cells = slices.Repeat([]int64{cell}, 48)
		stacks = append(stacks, []impl.Window{w})
	}
	for _, stack := range stacks {
		if got := impl.StackFault(stack); got != impl.OK {
			t.Errorf("StackFault(%v) = %d", stack, got)
		}
	}
}

func TestStackFaultWrong(t *testing.T) {
	for _, w := range wrongStacks() {
		if got := impl.StackFault(w.stack); got != w.code {
			t.Errorf("StackFault of %d, %v.. = %d, not %d", len(w.stack), w.stack[:min(3, len(w.stack))], got, w.code)
		}
	}
}

func TestWindowsByHand(t *testing.T) {
	low := impl.Window{Id: 1, Rect: rect(1, 1, 2, 1), Mapped: true, Cells: []int64{5, 6}}
	mid := impl.Window{Id: 65, Rect: rect(2, 1, 1, 2), Cells: []int64{0, 255}}
	top := impl.Window{Id: 2, Rect: rect(-20, 20, 1, 1), Mapped: true, Cells: []int64{9}}
	stack := []impl.Window{low, mid, top}
	made := impl.Window{Id: 3, Rect: rect(4, 5, 3, 2), Cells: []int64{0, 0, 0, 0, 0, 0}}
	shown, hidden, moved := mid, low, mid
	shown.Mapped, hidden.Mapped = true, false
	moved.Rect = rect(20, -20, 1, 2)
	cases := []struct {
		got   impl.StackResult
		value int64
		want  []impl.Window
	}{
		{impl.MakeWindow(stack, 0, rect(4, 5, 3, 2)), 3, []impl.Window{low, mid, top, made}},
		{impl.MakeWindow(nil, 3, rect(0, 0, 1, 1)), 193, []impl.Window{{Id: 193, Rect: rect(0, 0, 1, 1), Cells: []int64{0}}}},
		{impl.DropWindow(stack, 1), 0, []impl.Window{mid, top}},
		{impl.DropWindow(stack, 65), 0, []impl.Window{low, top}},
		{impl.DropWindow(stack, 2), 0, []impl.Window{low, mid}},
		{impl.DropWindow([]impl.Window{top}, 2), 0, nil},
		{impl.DropSlot(stack, 0), 2, []impl.Window{mid}},
		{impl.DropSlot(stack, 1), 1, []impl.Window{low, top}},
		{impl.DropSlot(stack, 2), 0, stack},
		{impl.DropSlot(nil, 3), 0, nil},
		{impl.MapWindow(stack, 65, true), 0, []impl.Window{low, shown, top}},
		{impl.MapWindow(stack, 65, false), 0, stack},
		{impl.MapWindow(stack, 1, false), 0, []impl.Window{hidden, mid, top}},
		{impl.RaiseWindow(stack, 1), 0, []impl.Window{mid, top, low}},
		{impl.RaiseWindow(stack, 65), 0, []impl.Window{low, top, mid}},
		{impl.RaiseWindow(stack, 2), 0, stack},
		{impl.MoveWindow(stack, 65, 20, -20), 0, []impl.Window{low, moved, top}},
		{impl.MoveWindow(stack, 65, 2, 1), 0, stack},
	}
	for place, c := range cases {
		if !isStack(c.got, c.value, c.want) {
			t.Errorf("case %d: %v, not %d, %v", place, c.got, c.value, c.want)
		}
	}
}

// rectsToMake has rectangles of the least and the greatest sizes, at the bounds and within.
func rectsToMake() []impl.Rect {
	list := []impl.Rect{rect(0, 0, 8, 6), rect(-20, -20, 1, 1), rect(20, 20, 8, 6), rect(20, -20, 8, 1), rect(-20, 20, 1, 6), rect(0, 0, 7, 5)}
	return append(list, windowRects[:]...)
}

// checkMade asks that a new window is the topmost one, of the lowest free id of the slot, and that all others are as they were.
func checkMade(t *testing.T, stack []impl.Window, slot int64, r impl.Rect) {
	t.Helper()
	ids, got := idsOfStack(stack), impl.MakeWindow(stack, slot, r)
	free := slices.IndexFunc(idsOfSlots[slot][:], func(id int64) bool { return !slices.Contains(ids, id) })
	if free < 0 {
		if !isNoStack(got, impl.ErrFull) {
			t.Errorf("MakeWindow of %v, slot %d, %v = %v: there is no id", ids, slot, r, got)
		}
		return
	}
	id := idsOfSlots[slot][free]
	if !isStack(got, id, madeByHand(stack, id, r)) || impl.NextId(ids, slot) != (impl.IntResult{Value: id}) || impl.StackFault(got.Stack) != impl.OK {
		t.Errorf("MakeWindow of %v, slot %d, %v = %v, not %d", ids, slot, r, got, id)
	}
}

func TestMakeWindow(t *testing.T) {
	for _, stack := range rightStacks() {
		for slot := range int64(4) {
			for _, r := range rectsToMake() {
				checkMade(t, stack, slot, r)
			}
		}
	}
}

// Every set of ids that there may be: the new one is of its slot, whatever others have.
func TestMakeWindowEverySet(t *testing.T) {
	for set := range allSets {
		stack := pointsOfIds(set.ids())
		for slot := range int64(4) {
			checkMade(t, stack, slot, rect(1, 2, 2, 1))
		}
	}
}

func TestMakeWindowEverySize(t *testing.T) {
	for width := range int64(23) {
		for height := range int64(23) {
			r := rect(width-3, 5-height, width, height)
			got := impl.MakeWindow(fullStack()[:5], 2, r)
			right := width >= 1 && width <= 8 && height >= 1 && height <= 6
			if right && !isStack(got, 130, madeByHand(fullStack()[:5], 130, r)) || !right && !isNoStack(got, impl.ErrRange) {
				t.Errorf("MakeWindow of %v = %v", r, got)
			}
		}
	}
}

// From nothing to all there can be, by turns: what was made later lies above.
func TestMakeUntilFull(t *testing.T) {
	var stack, want []impl.Window
	for place := range 3 {
		for _, slot := range []int64{2, 0, 3, 1} {
			got := impl.MakeWindow(stack, slot, windowRects[len(stack)])
			want = madeByHand(want, idsOfSlots[slot][place], windowRects[len(stack)])
			if !isStack(got, idsOfSlots[slot][place], want) {
				t.Fatalf("slot %d, its window %d: %v, not %v", slot, place, got, want)
			}
			stack = got.Stack
		}
	}
	for slot := range int64(4) {
		if got := impl.MakeWindow(stack, slot, rect(0, 0, 1, 1)); !isNoStack(got, impl.ErrFull) {
			t.Errorf("a window of slot %d more: %v", slot, got)
		}
	}
}

func TestEachWindow(t *testing.T) {
	for _, stack := range rightStacks() {
		for place, w := range stack {
			if got := impl.DropWindow(stack, w.Id); !isStack(got, 0, droppedByHand(stack, place)) {
				t.Errorf("DropWindow of %v, %d = %v", idsOfStack(stack), w.Id, got)
			}
			if got := impl.RaiseWindow(stack, w.Id); !isStack(got, 0, raisedByHand(stack, place)) {
				t.Errorf("RaiseWindow of %v, %d = %v", idsOfStack(stack), w.Id, got)
			}
			for _, on := range []bool{false, true} {
				if got := impl.MapWindow(stack, w.Id, on); !isStack(got, 0, mappedByHand(stack, place, on)) {
					t.Errorf("MapWindow of %v, %d, %v = %v", idsOfStack(stack), w.Id, on, got)
				}
			}
			for _, p := range []point{{0, 0}, {-20, -20}, {20, 20}, {-20, 20}, {20, -20}, {19, -19}, {3, 7}, {w.Rect.X, w.Rect.Y}} {
				if got := impl.MoveWindow(stack, w.Id, p.x, p.y); !isStack(got, 0, movedByHand(stack, place, p.x, p.y)) {
					t.Errorf("MoveWindow of %v, %d, %v = %v", idsOfStack(stack), w.Id, p, got)
				}
			}
		}
	}
}

// Each x, y around the bounds: the window is there, or nothing is answered.
func TestMoveEverywhere(t *testing.T) {
	stack := fullStack()
	for x := int64(-23); x <= 23; x++ {
		for y := int64(-23); y <= 23; y++ {
			place := int(x+y+46) % 12
			got := impl.MoveWindow(stack, stack[place].Id, x, y)
			right := x >= -20 && x <= 20 && y >= -20 && y <= 20
			if right && !isStack(got, 0, movedByHand(stack, place, x, y)) || !right && !isNoStack(got, impl.ErrRange) {
				t.Errorf("MoveWindow to %d, %d = %v", x, y, got)
			}
		}
	}
}

func wrongPlaces() []int64 {
	return []int64{-21, 21, -22, 22, 40, 256, -256, 255, 236, 1 << 32, 1<<32 + 1, -1 << 32, math.MaxInt64, math.MaxInt64 - 1, math.MinInt64, math.MinInt64 + 1}
}

func TestMoveWrong(t *testing.T) {
	stack := fullStack()
	for _, wrong := range wrongPlaces() {
		for _, p := range []point{{wrong, 0}, {0, wrong}, {wrong, wrong}, {wrong, 20}, {-20, wrong}, {wrong, math.MinInt64}, {math.MaxInt64, wrong}} {
			for _, w := range stack {
				if got := impl.MoveWindow(stack, w.Id, p.x, p.y); !isNoStack(got, impl.ErrRange) {
					t.Errorf("MoveWindow of %d to %v = %v", w.Id, p, got)
				}
			}
		}
	}
}

func TestDropSlot(t *testing.T) {
	for _, stack := range rightStacks() {
		for slot := range int64(4) {
			left, gone := slotDroppedByHand(stack, slot)
			if got := impl.DropSlot(stack, slot); !isStack(got, gone, left) {
				t.Errorf("DropSlot of %v, %d = %v, not %d, %v", idsOfStack(stack), slot, got, gone, left)
			}
		}
	}
}

func TestDropSlotEverySet(t *testing.T) {
	for set := range allSets {
		for _, ids := range ordersOf(set.ids()) {
			stack := pointsOfIds(ids)
			for slot := range int64(4) {
				left, gone := slotDroppedByHand(stack, slot)
				if got := impl.DropSlot(stack, slot); !isStack(got, gone, left) {
					t.Fatalf("DropSlot of %v, %d = %v, not %d, %v", ids, slot, got, gone, left)
				}
			}
		}
	}
}

// What a slot drops at once is what it drops one by one.
func TestDropSlotIsEachDropped(t *testing.T) {
	for _, stack := range rightStacks() {
		for slot, own := range idsOfSlots {
			left, gone := stack, int64(0)
			for _, id := range own {
				if got := impl.DropWindow(left, id); got.Code == impl.OK {
					left, gone = got.Stack, gone+1
				}
			}
			if got := impl.DropSlot(stack, int64(slot)); !isStack(got, gone, left) {
				t.Errorf("DropSlot of %v, %d = %v, one by one %d, %v", idsOfStack(stack), slot, got, gone, left)
			}
		}
	}
}

// checkTops asks TopAt at each point of the windows, and at all points around.
func checkTops(t *testing.T, stack []impl.Window) {
	t.Helper()
	tops := topsByHand(stack)
	for x := int64(-22); x <= 29; x++ {
		for y := int64(-22); y <= 27; y++ {
			if got, want := impl.TopAt(stack, x, y), topByHand(tops, x, y); got != want {
				t.Fatalf("TopAt of %v at %d, %d = %v, not %v", stack, x, y, got, want)
			}
		}
	}
}

func TestTopAt(t *testing.T) {
	for _, stack := range rightStacks() {
		checkTops(t, stack)
	}
	checkTops(t, []impl.Window{})
}

// Every way to map three windows that lie over one another, in each order.
func TestTopAtEveryMapping(t *testing.T) {
	low, mid, top := window(1, rect(0, 0, 3, 3), false, 1), window(65, rect(1, 1, 3, 3), false, 2), window(2, rect(2, 0, 3, 3), false, 3)
	for _, order := range [][3]impl.Window{{low, mid, top}, {low, top, mid}, {mid, low, top}, {mid, top, low}, {top, low, mid}, {top, mid, low}} {
		for mapped := range 8 {
			stack := slices.Clone(order[:])
			for place := range stack {
				stack[place].Mapped = mapped>>place&1 == 1
			}
			checkTops(t, stack)
		}
	}
}

// What is raised, shown, hidden, moved or dropped is so at each point.
func TestTopAtBehindChanges(t *testing.T) {
	stack := fullStack()
	for place, w := range stack {
		raised := impl.RaiseWindow(impl.MapWindow(stack, w.Id, true).Stack, w.Id).Stack
		for p := range pointsIn(w.Rect) {
			if got := impl.TopAt(raised, p.x, p.y); got != (impl.IntResult{Value: w.Id}) {
				t.Errorf("%d, mapped and raised: TopAt %v = %v", w.Id, p, got)
			}
		}
		checkTops(t, impl.MapWindow(stack, w.Id, place%2 == 0).Stack)
		checkTops(t, impl.MoveWindow(stack, w.Id, int64(place-3), 1).Stack)
		checkTops(t, impl.DropWindow(stack, w.Id).Stack)
	}
}

func TestTopAtFarAway(t *testing.T) {
	shown := fullStack()
	for place := range shown {
		shown[place].Mapped = true
	}
	for _, far := range append(farNumbers(), 28, 29, 1<<32+20, 1<<32+1, math.MinInt64+20) {
		for _, near := range []int64{-20, 0, 3, 20, far} {
			for _, stack := range [][]impl.Window{nil, shown[:1], shown} {
				for _, p := range []point{{far, near}, {near, far}} {
					if got := impl.TopAt(stack, p.x, p.y); got != (impl.IntResult{Code: impl.ErrNone}) {
						t.Errorf("TopAt %v = %v", p, got)
					}
				}
			}
		}
	}
}

// stackCall is a function of the chapter that answers a stack, with what it is given beside one.
type stackCall struct {
	name string
	ask  func(stack []impl.Window) impl.StackResult
}

// callsWithId has all functions that ask for a window, with an id and a place to move to.
func callsWithId(id, x, y int64) []stackCall {
	return []stackCall{
		{"DropWindow", func(stack []impl.Window) impl.StackResult { return impl.DropWindow(stack, id) }},
		{"MapWindow on", func(stack []impl.Window) impl.StackResult { return impl.MapWindow(stack, id, true) }},
		{"MapWindow off", func(stack []impl.Window) impl.StackResult { return impl.MapWindow(stack, id, false) }},
		{"RaiseWindow", func(stack []impl.Window) impl.StackResult { return impl.RaiseWindow(stack, id) }},
		{"MoveWindow", func(stack []impl.Window) impl.StackResult { return impl.MoveWindow(stack, id, x, y) }},
	}
}

// callsWithSlot has all functions that ask for a slot, with a slot and a rectangle to make.
func callsWithSlot(slot int64, r impl.Rect) []stackCall {
	return []stackCall{
		{"DropSlot", func(stack []impl.Window) impl.StackResult { return impl.DropSlot(stack, slot) }},
		{"MakeWindow", func(stack []impl.Window) impl.StackResult { return impl.MakeWindow(stack, slot, r) }},
	}
}

// checkStackCode asks that all calls tell just that code of that stack.
func checkStackCode(t *testing.T, stack []impl.Window, calls []stackCall, code int64) {
	t.Helper()
	for _, call := range calls {
		if got := call.ask(stack); !isNoStack(got, code) {
			t.Errorf("%s of %d, %v.. = %v, not code %d", call.name, len(stack), stack[:min(3, len(stack))], got, code)
		}
	}
}

// The stack is asked ahead of all else: of a window that is not there, of a place, a slot, a rectangle, of whether there is room.
func TestWrongStacks(t *testing.T) {
	calls := slices.Concat(callsWithId(1, 0, 0), callsWithId(128, 21, 0), callsWithId(math.MinInt64, 0, math.MaxInt64), callsWithId(195, -20, 20),
		callsWithSlot(0, rect(0, 0, 1, 1)), callsWithSlot(3, rect(0, 0, 9, 6)), callsWithSlot(4, rect(0, 0, 8, 6)), callsWithSlot(-1, impl.Rect{}))
	for _, w := range wrongStacks() {
		checkStackCode(t, w.stack, calls, w.code)
		for _, p := range []point{{0, 0}, {-22, 5}, {math.MaxInt64, math.MinInt64}} {
			if got := impl.TopAt(w.stack, p.x, p.y); got != (impl.IntResult{Code: w.code}) {
				t.Errorf("TopAt of %d, %v.. at %v = %v, not code %d", len(w.stack), w.stack[:min(3, len(w.stack))], p, got, w.code)
			}
		}
	}
}

// A window that is not there is none, be its id one or not, and wherever it should go.
func TestNoSuchWindow(t *testing.T) {
	for _, stack := range rightStacks() {
		ids := idsOfStack(stack)
		for _, id := range append(wrongIds(), allIds()...) {
			if !slices.Contains(ids, id) {
				checkStackCode(t, stack, callsWithId(id, 0, 0), impl.ErrNone)
				checkStackCode(t, stack, callsWithId(id, 21, -21), impl.ErrNone)
				checkStackCode(t, stack, callsWithId(id, math.MinInt64, math.MaxInt64), impl.ErrNone)
			}
		}
	}
}

func TestNoSuchSlot(t *testing.T) {
	for _, stack := range rightStacks() {
		for _, slot := range wrongSlots() {
			checkStackCode(t, stack, callsWithSlot(slot, rect(0, 0, 8, 6)), impl.ErrRange)
			checkStackCode(t, stack, callsWithSlot(slot, rect(0, 0, 9, 6)), impl.ErrRange)
		}
	}
}

// A wrong rectangle is told ahead of whether there is room.
func TestMakeWrongRects(t *testing.T) {
	for _, r := range append(wrongRects(), tooGreatRects()...) {
		for _, stack := range [][]impl.Window{nil, fullStack()[:5], fullStack()} {
			for slot := range int64(4) {
				if got := impl.MakeWindow(stack, slot, r); !isNoStack(got, impl.ErrRange) {
					t.Errorf("MakeWindow of %v, slot %d, %v = %v", idsOfStack(stack), slot, r, got)
				}
			}
		}
	}
}

// stacksTurnedOnce has stacks that differ from stack in one thing alone.
func stacksTurnedOnce(stack []impl.Window) [][]impl.Window {
	list := [][]impl.Window{append(cloneStack(stack), pointWindow(1)), append([]impl.Window{{}}, cloneStack(stack)...)}
	for place, w := range stack {
		for _, turn := range windowsTurnedOnce(w) {
			turned := cloneStack(stack)
			turned[place] = turn
			list = append(list, turned)
		}
		list = append(list, droppedByHand(stack, place))
		if place > 0 {
			swapped := cloneStack(stack)
			swapped[place-1], swapped[place] = swapped[place], swapped[place-1]
			list = append(list, swapped)
		}
	}
	return list
}

func windowsTurnedOnce(w impl.Window) []impl.Window {
	var list []impl.Window
	for _, by := range []int64{1, -1, 1 << 8, 1 << 32, math.MinInt64} {
		turns := [5]impl.Window{w, w, w, w, w}
		turns[0].Id += by
		turns[1].Rect.X += by
		turns[2].Rect.Y += by
		turns[3].Rect.Width += by
		turns[4].Rect.Height += by
		list = append(list, turns[:]...)
		for at := range w.Cells {
			cell := w
			cell.Cells = slices.Clone(w.Cells)
			cell.Cells[at] += by
			list = append(list, cell)
		}
	}
	mapped, longer, shorter := w, w, w
	mapped.Mapped = !w.Mapped
	longer.Cells = append(slices.Clone(w.Cells), 0)
	list = append(list, mapped, longer)
	if size := len(w.Cells); size > 0 {
		shorter.Cells = w.Cells[:size-1]
		list = append(list, shorter)
	}
	return list
}

func TestSameStacksOneThing(t *testing.T) {
	stacks := [][]impl.Window{nil, fullStack()[:1], fullStack()[:3], fullStack()}
	// Wrong stacks are held against each other, too: all is the same, or it is not.
	for _, w := range withSeveralFaults() {
		stacks = append(stacks, w.stack)
	}
	stacks = append(stacks, []impl.Window{{}}, []impl.Window{{Id: math.MinInt64, Rect: rect(math.MaxInt64, 0, 0, math.MinInt64), Cells: []int64{-1}}})
	for _, stack := range stacks {
		if !impl.SameStacks(stack, stack) || !impl.SameStacks(stack, cloneStack(stack)) {
			t.Errorf("SameStacks of %v and itself is not so", stack)
		}
		for _, other := range stacksTurnedOnce(stack) {
			if sameStackByHand(stack, other) {
				continue // two neighbours that are the same, swapped
			}
			if impl.SameStacks(stack, other) || impl.SameStacks(other, stack) {
				t.Errorf("SameStacks(%v, %v) is so", stack, other)
			}
		}
	}
}

func TestSameStacksEmptyLists(t *testing.T) {
	noCells, emptyCells := []impl.Window{{Id: 1}}, []impl.Window{{Id: 1, Cells: []int64{}}}
	if !impl.SameStacks(nil, []impl.Window{}) || !impl.SameStacks([]impl.Window{}, nil) || !impl.SameStacks(noCells, emptyCells) || !impl.SameStacks(emptyCells, noCells) {
		t.Error("SameStacks: an empty list and nil are not the same")
	}
	if impl.SameStacks(nil, []impl.Window{{}}) || impl.SameStacks([]impl.Window{{}}, nil) {
		t.Error("SameStacks: no window is the same as an empty one")
	}
	moreThere, moreHere := []impl.Window{{Cells: []int64{1, 2}}, {Cells: []int64{3}}}, []impl.Window{{Cells: []int64{1}}, {Cells: []int64{2, 3}}}
	if impl.SameStacks(moreThere, moreHere) {
		t.Error("SameStacks: a cell of one window is the same as one of the next")
	}
}

// stackTurn does one of the chapter's functions, chosen by number, to a stack, and tells by hand what it is asked for.
func stackTurn(stack []impl.Window, number int) (got impl.StackResult, want impl.StackResult) {
	slot, id := int64(number/7%4), allIds()[number/11%12]
	rects := rectsToMake()
	x, y, r := int64(number%41-20), int64(number/3%41-20), rects[number/5%len(rects)]
	place := slices.Index(idsOfStack(stack), id)
	next := impl.NextId(idsOfStack(stack), slot)
	kind := number % 8
	switch {
	case kind <= 2 && next.Code != impl.OK:
		return impl.MakeWindow(stack, slot, r), impl.StackResult{Code: impl.ErrFull}
	case kind <= 2:
		return impl.MakeWindow(stack, slot, r), impl.StackResult{Value: next.Value, Stack: madeByHand(stack, next.Value, r)}
	case kind == 3 && number%5 == 0:
		left, gone := slotDroppedByHand(stack, slot)
		return impl.DropSlot(stack, slot), impl.StackResult{Value: gone, Stack: left}
	case place < 0:
		return impl.RaiseWindow(stack, id), impl.StackResult{Code: impl.ErrNone}
	case kind == 3:
		return impl.DropWindow(stack, id), impl.StackResult{Stack: droppedByHand(stack, place)}
	case kind == 4:
		return impl.RaiseWindow(stack, id), impl.StackResult{Stack: raisedByHand(stack, place)}
	case kind == 5:
		return impl.MoveWindow(stack, id, x, y), impl.StackResult{Stack: movedByHand(stack, place, x, y)}
	}
	on := kind == 6
	return impl.MapWindow(stack, id, on), impl.StackResult{Stack: mappedByHand(stack, place, on)}
}

// Long runs of all that may be done: each answer is the next one's stack, and every stack is right.
func TestStackTurns(t *testing.T) {
	for seed := range 20 {
		var stack []impl.Window
		number := uint32(seed*7919 + 1)
		for step := range 600 {
			number = number*1664525 + 1013904223
			got, want := stackTurn(stack, int(number>>8))
			if !sameStackResults(got, want) {
				t.Fatalf("seed %d, step %d, %d: %v, not %v", seed, step, number>>8, got, want)
			}
			if got.Code == impl.OK {
				stack = got.Stack
			}
			if fault := impl.StackFault(stack); fault != impl.OK {
				t.Fatalf("seed %d, step %d: StackFault(%v) = %d", seed, step, stack, fault)
			}
			if step%100 == 99 {
				checkTops(t, stack)
			}
		}
	}
}

// stackInMemory lays all windows, and all their cells, into the midst of one memory each.
func stackInMemory(stack []impl.Window) (inside, windows []impl.Window, cells []int64) {
	cells = []int64{7, 7}
	for _, w := range stack {
		cells = append(cells, w.Cells...)
	}
	cells = append(cells, 7, 7, 7, 7)
	windows = []impl.Window{pointWindow(66)}
	from := 2
	for _, w := range stack {
		w.Cells = cells[from : from+len(w.Cells)]
		from += len(w.Cells)
		windows = append(windows, w)
	}
	windows = append(windows, pointWindow(66), pointWindow(67), pointWindow(1))
	return windows[1 : 1+len(stack)], windows, cells
}

func askAll(stack []impl.Window, id, slot int64) {
	for _, call := range slices.Concat(callsWithId(id, slot, 3), callsWithId(id, 21, slot), callsWithSlot(slot, rect(1, 1, 2, 2)), callsWithSlot(slot, rect(1, 1, 9, 1))) {
		call.ask(stack)
	}
	impl.StackFault(stack)
	impl.TopAt(stack, slot, 1)
	impl.SameStacks(stack, stack)
}

// What lies around a list, and behind its end, is as it was, too.
func TestWindowsChangeNoArgument(t *testing.T) {
	stacks := rightStacks()
	for _, w := range withSeveralFaults() {
		stacks = append(stacks, w.stack)
	}
	for _, stack := range stacks {
		inside, windows, cells := stackInMemory(stack)
		wasWindows, wasCells := cloneStack(windows), slices.Clone(cells)
		for place, id := range append(idsOfStack(stack), 0, 130) {
			askAll(inside, id, int64(place%6-1))
			if !sameStackByHand(windows, wasWindows) || !slices.Equal(cells, wasCells) {
				t.Fatalf("%v with %d: changed to %v, %v", stack, id, windows, cells)
			}
		}
	}
}

func overwriteWindows(list []impl.Window) {
	all := list[:cap(list)]
	for place := range all {
		all[place] = window(77, rect(77, 77, 1, 1), true, 77)
	}
}

// checkCellsAlone turns the cells of one window of an answer after the other, and all memory behind them:
// all other windows are as they were, here and in another answer.
func checkCellsAlone(t *testing.T, name string, again func() impl.StackResult) {
	t.Helper()
	for place := range again().Stack {
		turned, other := again(), again()
		was := cloneStackResult(other)
		overwriteInts(turned.Stack[place].Cells)
		_ = append(turned.Stack[place].Cells, 77, 77, 77)
		turned.Stack[place].Cells = slices.Clone(was.Stack[place].Cells)
		if !sameStackResults(turned, was) || !sameStackResults(other, was) {
			t.Errorf("%s: turned with the cells of window %d: %v, %v, not %v", name, place, turned, other, was)
		}
	}
}

// checkStackIsNew asks that an answer turns neither with its argument nor with another answer.
func checkStackIsNew(t *testing.T, given []impl.Window, call stackCall) {
	t.Helper()
	stack := cloneStack(given)
	again := func() impl.StackResult { return call.ask(stack) }
	checkCellsAlone(t, call.name, again)
	turned, kept := again(), again()
	was := cloneStackResult(kept)
	overwriteWindows(turned.Stack)
	_ = append(turned.Stack, pointWindow(77), pointWindow(77))
	if !sameStackByHand(stack, given) || !sameStackResults(kept, was) {
		t.Errorf("%s of %v: turned with an answer: %v, %v", call.name, given, stack, kept)
	}
	for _, w := range stack {
		overwriteInts(w.Cells)
	}
	overwriteWindows(stack)
	if !sameStackResults(kept, was) {
		t.Errorf("%s of %v: the answer turned with it: %v, not %v", call.name, given, kept, was)
	}
}

func TestStackAnswersAreNew(t *testing.T) {
	for _, stack := range rightStacks() {
		for slot := range int64(4) {
			for _, call := range callsWithSlot(slot, rect(2, 2, 3, 3)) {
				checkStackIsNew(t, stack, call)
			}
		}
		for _, w := range stack {
			for _, call := range callsWithId(w.Id, 4, 4) {
				checkStackIsNew(t, stack, call)
			}
		}
	}
}

// Windows of a stack may share their cells: in the answer they do not.
func TestSharedCellsArePartedInAnswers(t *testing.T) {
	memory := cellsFrom(5, 12)
	stack := []impl.Window{{Id: 1, Rect: rect(0, 0, 3, 2), Cells: memory[:6]}, {Id: 65, Rect: rect(1, 1, 2, 3), Mapped: true, Cells: memory[:6]},
		{Id: 2, Rect: rect(2, 2, 2, 2), Cells: memory[4:8]}, {Id: 195, Rect: rect(0, 1, 6, 1), Cells: memory[6:]}}
	calls := slices.Concat(callsWithId(1, 3, 3), callsWithId(65, 3, 3), callsWithId(2, 0, 0), callsWithSlot(0, rect(0, 0, 3, 2)), callsWithSlot(1, rect(0, 0, 1, 1)), callsWithSlot(2, rect(0, 0, 8, 6)))
	for _, call := range calls {
		checkCellsAlone(t, call.name, func() impl.StackResult { return call.ask(stack) })
	}
	if !slices.Equal(memory, cellsFrom(5, 12)) {
		t.Errorf("the shared cells turned to %v", memory)
	}
}

// Two windows made of one stack, one after the other, know nothing of each other.
func TestMakeTwiceOfOneStack(t *testing.T) {
	for size := range 9 {
		base := impl.MakeWindow(stackOfIds(allIds()[:size]), 3, rect(0, 0, 2, 2)).Stack
		one, other := impl.MakeWindow(base, 3, rect(1, 1, 1, 1)), impl.MakeWindow(base, 3, rect(5, 5, 3, 2))
		if !isStack(one, 194, madeByHand(base, 194, rect(1, 1, 1, 1))) || !isStack(other, 194, madeByHand(base, 194, rect(5, 5, 3, 2))) {
			t.Errorf("%d windows and two more: %v, %v", size+1, one, other)
		}
	}
}

// stackAnswers holds what the functions of the chapter answer at two stacks and two numbers.
type stackAnswers struct {
	fault  int64
	stacks []impl.StackResult
	top    impl.IntResult
	same   bool
}

func stackAnswersAt(stack, other []impl.Window, id, slot int64) stackAnswers {
	answers := stackAnswers{fault: impl.StackFault(stack), top: impl.TopAt(stack, id%8, slot), same: impl.SameStacks(stack, other)}
	for _, call := range slices.Concat(callsWithId(id, slot, 3), callsWithSlot(slot, rect(slot, 1, 2, slot+2))) {
		answers.stacks = append(answers.stacks, call.ask(stack))
	}
	return answers
}

func sameStackAnswers(a, b stackAnswers) bool {
	return a.fault == b.fault && a.top == b.top && a.same == b.same && slices.EqualFunc(a.stacks, b.stacks, sameStackResults)
}

// Asked again, in another order and with other calls between, every answer is the same.
func TestWindowsKeepNothing(t *testing.T) {
	stacks := rightStacks()
	for _, w := range withSeveralFaults() {
		stacks = append(stacks, w.stack)
	}
	at := func(i int) stackAnswers {
		return stackAnswersAt(stacks[i*7%len(stacks)], stacks[i/3%len(stacks)], append(allIds(), 0, 4)[i%14], int64(i%6-1))
	}
	const turns = 3000
	var first []stackAnswers
	for i := range turns {
		first = append(first, at(i))
	}
	for i := turns - 1; i >= 0; i-- {
		if again := at(i); !sameStackAnswers(again, first[i]) {
			t.Errorf("at %d: first %v, then %v", i, first[i], again)
		}
	}
}
