package tests

import (
	"math"
	"slices"
	"testing"

	"loop.example/g00545/impl"
)

// sizesToPaint has the rectangles of windows of the least size, the greatest one, one row, one column, and of a size between.
func sizesToPaint() []impl.Rect {
	return []impl.Rect{rect(0, 0, 1, 1), rect(4, -3, 8, 1), rect(-20, 20, 1, 6), rect(20, -20, 8, 6), rect(2, 1, 3, 2)}
}

// paintTurn is a stack with the place of the window that is to be painted.
type paintTurn struct {
	stack []impl.Window
	place int
}

func (p paintTurn) id() int64 {
	return p.stack[p.place].Id
}

// stacksToPaint has a window of that rectangle as the lowest one, in the midst, as the topmost one and alone, mapped and not.
// All cells of it are different, the others have some of its values, one of them its rectangle and its cells.
func stacksToPaint(r impl.Rect) []paintTurn {
	var list []paintTurn
	for _, mapped := range []bool{true, false} {
		painted, twin := window(66, r, mapped, 3), window(3, r, !mapped, 3)
		low, top := window(193, rect(0, 0, 8, 6), mapped, 1), window(1, rect(5, 5, 2, 3), !mapped, 9)
		list = append(list, paintTurn{[]impl.Window{painted}, 0}, paintTurn{[]impl.Window{painted, low, twin, top}, 0},
			paintTurn{[]impl.Window{low, twin, painted, top}, 2}, paintTurn{[]impl.Window{twin, top, low, painted}, 3})
	}
	return list
}

// cellsByHand tells the cells of a window by their points, counted from its own upper left one.
func cellsByHand(w impl.Window) map[point]int64 {
	cells := map[point]int64{}
	x, y := int64(0), int64(0)
	for _, cell := range w.Cells {
		cells[point{x, y}] = cell
		if x++; x == w.Rect.Width {
			x, y = 0, y+1
		}
	}
	return cells
}

// withCells is the stack with other cells in one window.
func withCells(p paintTurn, cells map[point]int64) []impl.Window {
	painted := cloneStack(p.stack)
	w := &painted[p.place]
	w.Cells = nil
	for y := range w.Rect.Height {
		for x := range w.Rect.Width {
			w.Cells = append(w.Cells, cells[point{x, y}])
		}
	}
	return painted
}

func filledByHand(p paintTurn, r impl.Rect, colour int64) []impl.Window {
	cells := cellsByHand(p.stack[p.place])
	for at := range pointsIn(r) {
		if _, there := cells[at]; there {
			cells[at] = colour
		}
	}
	return withCells(p, cells)
}

// copiedByHand puts into a second picture what is read from the first one.
func copiedByHand(p paintTurn, r impl.Rect, x, y int64) []impl.Window {
	was, cells := cellsByHand(p.stack[p.place]), cellsByHand(p.stack[p.place])
	for from := range pointsIn(r) {
		to := point{x + from.x - r.X, y + from.y - r.Y}
		cell, read := was[from]
		if _, there := cells[to]; there && read {
			cells[to] = cell
		}
	}
	return withCells(p, cells)
}

// checkFill asks for what is told by hand, and that the stack that is answered is right.
func checkFill(t *testing.T, p paintTurn, r impl.Rect, colour int64) {
	t.Helper()
	got := impl.FillWindow(p.stack, p.id(), r, colour)
	if !isStack(got, 0, filledByHand(p, r, colour)) || impl.StackFault(got.Stack) != impl.OK {
		t.Fatalf("FillWindow of %v, %d, %v, %d = %v", p.stack, p.id(), r, colour, got)
	}
}

func checkCopy(t *testing.T, p paintTurn, r impl.Rect, x, y int64) {
	t.Helper()
	got := impl.CopyWindow(p.stack, p.id(), r, x, y)
	if !isStack(got, 0, copiedByHand(p, r, x, y)) || impl.StackFault(got.Stack) != impl.OK {
		t.Fatalf("CopyWindow of %v, %d, %v to %d, %d = %v", p.stack, p.id(), r, x, y, got)
	}
}

// small is a window of 4 by 3 whose cells tell their rows by tens and their columns by ones.
func small() []impl.Window {
	return []impl.Window{{Id: 65, Rect: rect(7, 2, 4, 3), Cells: []int64{10, 11, 12, 13, 20, 21, 22, 23, 30, 31, 32, 33}}}
}

func TestFillByHand(t *testing.T) {
	cases := []struct {
		r      impl.Rect
		colour int64
		want   []int64
	}{
		{rect(0, 0, 4, 3), 5, []int64{5, 5, 5, 5, 5, 5, 5, 5, 5, 5, 5, 5}},
		{rect(-20, -20, 20, 20), 5, []int64{10, 11, 12, 13, 20, 21, 22, 23, 30, 31, 32, 33}},
		{rect(-16, -17, 20, 20), 255, []int64{255, 255, 255, 255, 255, 255, 255, 255, 255, 255, 255, 255}},
		{rect(1, 1, 2, 1), 0, []int64{10, 11, 12, 13, 20, 0, 0, 23, 30, 31, 32, 33}},
		{rect(1, 0, 1, 3), 1, []int64{10, 1, 12, 13, 20, 1, 22, 23, 30, 1, 32, 33}},
		{rect(-1, -1, 2, 2), 7, []int64{7, 11, 12, 13, 20, 21, 22, 23, 30, 31, 32, 33}},
		{rect(3, 2, 20, 20), 254, []int64{10, 11, 12, 13, 20, 21, 22, 23, 30, 31, 32, 254}},
		{rect(2, -5, 1, 7), 9, []int64{10, 11, 9, 13, 20, 21, 9, 23, 30, 31, 32, 33}},
		{rect(-5, 2, 20, 1), 9, []int64{10, 11, 12, 13, 20, 21, 22, 23, 9, 9, 9, 9}},
		{rect(4, 0, 2, 3), 9, []int64{10, 11, 12, 13, 20, 21, 22, 23, 30, 31, 32, 33}},
		{rect(0, 3, 4, 2), 9, []int64{10, 11, 12, 13, 20, 21, 22, 23, 30, 31, 32, 33}},
		{rect(7, 2, 4, 3), 9, []int64{10, 11, 12, 13, 20, 21, 22, 23, 30, 31, 32, 33}},
		{rect(20, 20, 20, 20), 9, []int64{10, 11, 12, 13, 20, 21, 22, 23, 30, 31, 32, 33}},
	}
	for _, c := range cases {
		want := small()
		want[0].Cells = c.want
		if got := impl.FillWindow(small(), 65, c.r, c.colour); !isStack(got, 0, want) {
			t.Errorf("FillWindow of %v, %d = %v, not %v", c.r, c.colour, got, c.want)
		}
	}
}

func TestCopyByHand(t *testing.T) {
	as := []int64{10, 11, 12, 13, 20, 21, 22, 23, 30, 31, 32, 33}
	cases := []struct {
		r    impl.Rect
		x, y int64
		want []int64
	}{
		{rect(0, 0, 4, 3), 0, 0, as},
		{rect(1, 1, 2, 2), 1, 1, as},
		{rect(0, 0, 3, 3), 1, 0, []int64{10, 10, 11, 12, 20, 20, 21, 22, 30, 30, 31, 32}},
		{rect(1, 0, 3, 3), 0, 0, []int64{11, 12, 13, 13, 21, 22, 23, 23, 31, 32, 33, 33}},
		{rect(0, 0, 4, 2), 0, 1, []int64{10, 11, 12, 13, 10, 11, 12, 13, 20, 21, 22, 23}},
		{rect(0, 1, 4, 2), 0, 0, []int64{20, 21, 22, 23, 30, 31, 32, 33, 30, 31, 32, 33}},
		{rect(0, 0, 3, 2), 1, 1, []int64{10, 11, 12, 13, 20, 10, 11, 12, 30, 20, 21, 22}},
		{rect(1, 1, 3, 2), 0, 0, []int64{21, 22, 23, 13, 31, 32, 33, 23, 30, 31, 32, 33}},
		{rect(1, 0, 3, 2), 0, 1, []int64{10, 11, 12, 13, 11, 12, 13, 23, 21, 22, 23, 33}},
		{rect(0, 1, 3, 2), 1, 0, []int64{10, 20, 21, 22, 20, 30, 31, 32, 30, 31, 32, 33}},
		{rect(0, 0, 1, 1), 3, 2, []int64{10, 11, 12, 13, 20, 21, 22, 23, 30, 31, 32, 10}},
		{rect(0, 0, 2, 2), 3, 2, []int64{10, 11, 12, 13, 20, 21, 22, 23, 30, 31, 32, 10}},
		{rect(2, 1, 2, 2), -1, -1, []int64{33, 11, 12, 13, 20, 21, 22, 23, 30, 31, 32, 33}},
		{rect(-1, -1, 2, 2), 1, 1, []int64{10, 11, 12, 13, 20, 21, 22, 23, 30, 31, 10, 33}},
		{rect(-1, 0, 3, 1), 0, 2, []int64{10, 11, 12, 13, 20, 21, 22, 23, 30, 10, 11, 33}},
		{rect(3, 2, 5, 5), 0, 0, []int64{33, 11, 12, 13, 20, 21, 22, 23, 30, 31, 32, 33}},
		{rect(-20, -20, 20, 20), 0, 0, as},
		{rect(4, 0, 4, 3), 0, 0, as},
		{rect(0, 3, 4, 3), 0, 0, as},
		{rect(0, 0, 4, 3), 4, 0, as},
		{rect(0, 0, 4, 3), 0, -3, as},
		{rect(0, 0, 4, 3), 20, 20, as},
		{rect(0, 0, 4, 3), -20, -20, as},
		{rect(-16, -17, 20, 20), -20, -20, as},
		{rect(-16, -17, 20, 20), -17, -17, []int64{11, 12, 13, 13, 21, 22, 23, 23, 31, 32, 33, 33}},
		{rect(-17, -18, 20, 20), -16, -18, []int64{10, 10, 11, 12, 20, 20, 21, 22, 30, 31, 32, 33}},
	}
	for _, c := range cases {
		want := small()
		want[0].Cells = c.want
		if got := impl.CopyWindow(small(), 65, c.r, c.x, c.y); !isStack(got, 0, want) {
			t.Errorf("CopyWindow of %v to %d, %d = %v, not %v", c.r, c.x, c.y, got, c.want)
		}
	}
}

// spansAround has the ways in which a part of a row, or of a column, may lie to one of that length: within, all of it, over an end or both, outside.
func spansAround(length int64) []span {
	spans := []span{{-20, 20}, {-19, 20}, {20, 1}, {20, 20}, {-20, 1}, {1 - length, 20}, {length - 1, 20}}
	for from := int64(-2); from <= length+1; from++ {
		for size := int64(1); size <= length+3; size++ {
			spans = append(spans, span{from, size})
		}
	}
	return spans
}

// Rectangles that lie in every way to the window, in both directions.
func TestFillEverywhere(t *testing.T) {
	for _, size := range sizesToPaint() {
		stacks := stacksToPaint(size)
		for i, across := range spansAround(size.Width) {
			for j, down := range spansAround(size.Height) {
				r := rect(across.from, down.from, across.length, down.length)
				checkFill(t, stacks[(i+j)%len(stacks)], r, []int64{0, 1, 77, 255}[(i+2*j)%4])
			}
		}
	}
}

func TestFillEachStack(t *testing.T) {
	for _, size := range sizesToPaint() {
		for _, p := range stacksToPaint(size) {
			for _, r := range []impl.Rect{rect(0, 0, 1, 1), rect(0, 0, size.Width, size.Height), rect(-1, -1, 2, 2), rect(size.Width-1, size.Height-1, 2, 2),
				rect(-2, 0, 20, 1), rect(0, -2, 1, 20), rect(size.Width, 0, 1, 1), rect(0, size.Height, 1, 1), rect(-3, -3, 20, 20), size} {
				for _, colour := range []int64{0, 1, 128, 254, 255} {
					checkFill(t, p, r, colour)
				}
			}
		}
	}
}

// Twelve windows: what is filled or copied in one is so in that one alone.
func TestPaintInFullStack(t *testing.T) {
	for place, w := range fullStack() {
		p := paintTurn{fullStack(), place}
		for _, r := range []impl.Rect{rect(0, 0, 8, 6), rect(0, 0, 1, 1), rect(w.Rect.Width-1, 0, 3, 20), w.Rect} {
			checkFill(t, p, r, int64(place*23))
			checkCopy(t, p, r, 1, 0)
			checkCopy(t, p, r, 0, 1)
			checkCopy(t, p, r, -1, 2)
		}
	}
}

// All of a small window's points, of every rectangle around it, go to all places around it.
func TestCopyEverywhere(t *testing.T) {
	for _, size := range []impl.Rect{rect(0, 0, 1, 1), rect(3, 3, 3, 2), rect(-20, 20, 2, 3)} {
		stacks := stacksToPaint(size)
		for i, across := range spansAround(size.Width) {
			for j, down := range spansAround(size.Height) {
				r := rect(across.from, down.from, across.length, down.length)
				for x := int64(-3); x <= size.Width+1; x++ {
					for y := int64(-3); y <= size.Height+1; y++ {
						checkCopy(t, stacks[(i+j)%len(stacks)], r, x, y)
					}
				}
			}
		}
	}
}

// placesAround has places to copy to around that rectangle's own, and at the bounds.
func placesAround(r impl.Rect) []point {
	places := []point{{0, 0}, {-20, -20}, {20, 20}, {-20, 20}, {20, -20}, {0, 20}, {-20, 0}, {-19, 19}}
	for right := int64(-2); right <= 2; right++ {
		for down := int64(-2); down <= 2; down++ {
			to := point{r.X + right, r.Y + down}
			if max(to.x, -to.x, to.y, -to.y) <= 20 {
				places = append(places, to)
			}
		}
	}
	return places
}

// Copies to the same place, over themselves to each side and aslant, and far away.
func TestCopyOverItself(t *testing.T) {
	for _, size := range sizesToPaint() {
		stacks := stacksToPaint(size)
		for i, across := range spansAround(size.Width) {
			for j, down := range spansAround(size.Height) {
				if (i+2*j)%7 != 0 { // the greatest window has thousands of rectangles around it
					continue
				}
				r := rect(across.from, down.from, across.length, down.length)
				for number, to := range placesAround(r) {
					checkCopy(t, stacks[(i+number)%len(stacks)], r, to.x, to.y)
				}
			}
		}
	}
}

// Each place that there may be, and those around the bounds, for the greatest window and the greatest rectangles.
func TestCopyToEachPlace(t *testing.T) {
	turns := stacksToPaint(rect(5, 5, 8, 6))
	for _, r := range []impl.Rect{rect(0, 0, 8, 6), rect(-20, -20, 20, 20), rect(-12, -14, 20, 20), rect(-6, -7, 20, 20), rect(20, 20, 20, 20), rect(2, 1, 4, 3)} {
		for x := int64(-23); x <= 23; x++ {
			for y := int64(-23); y <= 23; y++ {
				p := turns[int(x+y+46)%len(turns)]
				if max(x, -x, y, -y) <= 20 {
					checkCopy(t, p, r, x, y)
				} else if got := impl.CopyWindow(p.stack, p.id(), r, x, y); !isNoStack(got, impl.ErrRange) {
					t.Errorf("CopyWindow of %v to %d, %d = %v", r, x, y, got)
				}
			}
		}
	}
}

// What was filled is read at each of its points, and copied from there.
func TestFilledAndCopiedIsRead(t *testing.T) {
	p := stacksToPaint(rect(3, 3, 8, 6))[2]
	stack := impl.FillWindow(p.stack, p.id(), rect(1, 1, 2, 2), 200).Stack
	stack = impl.CopyWindow(stack, p.id(), rect(1, 1, 2, 2), 5, 3).Stack
	was := cellsByHand(p.stack[p.place])
	for at := range pointsIn(rect(0, 0, 8, 6)) {
		want := was[at]
		if impl.HasPoint(rect(1, 1, 2, 2), at.x, at.y) || impl.HasPoint(rect(5, 3, 2, 2), at.x, at.y) {
			want = 200
		}
		if got := impl.PointOf(stack, p.id(), at.x, at.y); got != (impl.IntResult{Value: want}) {
			t.Errorf("PointOf %v = %v, not %d", at, got, want)
		}
	}
}

// checkPoints asks for each point of a window and around it, alone and in its stack.
func checkPoints(t *testing.T, p paintTurn) {
	t.Helper()
	w := p.stack[p.place]
	cells := cellsByHand(w)
	for x := int64(-22); x <= 30; x++ {
		for y := int64(-22); y <= 30; y++ {
			want := impl.IntResult{Code: impl.ErrRange}
			if cell, there := cells[point{x, y}]; there {
				want = impl.IntResult{Value: cell}
			}
			if got := impl.CellAt(w, x, y); got != want {
				t.Errorf("CellAt of %v at %d, %d = %v, not %v", w, x, y, got, want)
			}
			if got := impl.PointOf(p.stack, w.Id, x, y); got != want {
				t.Errorf("PointOf of %v, %d at %d, %d = %v, not %v", p.stack, w.Id, x, y, got, want)
			}
		}
	}
}

func TestEachPoint(t *testing.T) {
	for _, size := range sizesToPaint() {
		for _, p := range stacksToPaint(size) {
			checkPoints(t, p)
		}
	}
	for place := range 12 {
		checkPoints(t, paintTurn{fullStack(), place})
	}
}

func TestPointsByHand(t *testing.T) {
	cases := []struct {
		x, y int64
		want impl.IntResult
	}{
		{0, 0, impl.IntResult{Value: 10}},
		{3, 0, impl.IntResult{Value: 13}},
		{0, 2, impl.IntResult{Value: 30}},
		{3, 2, impl.IntResult{Value: 33}},
		{1, 2, impl.IntResult{Value: 31}},
		{2, 1, impl.IntResult{Value: 22}},
		{4, 0, impl.IntResult{Code: impl.ErrRange}},
		{-1, 1, impl.IntResult{Code: impl.ErrRange}},
		{0, 3, impl.IntResult{Code: impl.ErrRange}},
		{5, -1, impl.IntResult{Code: impl.ErrRange}},
		{7, 2, impl.IntResult{Code: impl.ErrRange}},
		{10, 4, impl.IntResult{Code: impl.ErrRange}},
	}
	for _, c := range cases {
		if got := impl.CellAt(small()[0], c.x, c.y); got != c.want {
			t.Errorf("CellAt %d, %d = %v, not %v", c.x, c.y, got, c.want)
		}
		if got := impl.PointOf(small(), 65, c.x, c.y); got != c.want {
			t.Errorf("PointOf %d, %d = %v, not %v", c.x, c.y, got, c.want)
		}
	}
}

// Numbers that would wrap round into the window, or out of all numbers, if they were reckoned with ahead of being compared.
func TestPointsFarAway(t *testing.T) {
	far := append(farNumbers(), wrongPlaces()...)
	far = append(far, math.MinInt64+8, math.MaxInt64/8, math.MaxInt64/8+1, math.MinInt64/8, 1<<61, 1<<62, 1<<63-8)
	for _, size := range sizesToPaint() {
		p := stacksToPaint(size)[2]
		for _, number := range far {
			for _, near := range []int64{0, size.Width - 1, size.Height - 1, -1, number} {
				for _, at := range []point{{number, near}, {near, number}} {
					if got := impl.CellAt(p.stack[p.place], at.x, at.y); got != (impl.IntResult{Code: impl.ErrRange}) {
						t.Errorf("CellAt of %v at %v = %v", size, at, got)
					}
					if got := impl.PointOf(p.stack, p.id(), at.x, at.y); got != (impl.IntResult{Code: impl.ErrRange}) {
						t.Errorf("PointOf of %v at %v = %v", size, at, got)
					}
				}
			}
		}
	}
}

// paintCalls has both functions that paint, with all that they are given beside a stack.
func paintCalls(id int64, r impl.Rect, colour, x, y int64) []stackCall {
	return []stackCall{
		{"FillWindow", func(stack []impl.Window) impl.StackResult { return impl.FillWindow(stack, id, r, colour) }},
		{"CopyWindow", func(stack []impl.Window) impl.StackResult { return impl.CopyWindow(stack, id, r, x, y) }},
	}
}

// checkPointCode asks that PointOf tells just that code at points of a window, around it and far away.
func checkPointCode(t *testing.T, stack []impl.Window, id, code int64) {
	t.Helper()
	for _, at := range []point{{0, 0}, {-1, 0}, {8, 6}, {math.MaxInt64, math.MinInt64}} {
		if got := impl.PointOf(stack, id, at.x, at.y); got != (impl.IntResult{Code: code}) {
			t.Errorf("PointOf of %d, %v.., %d at %v = %v, not code %d", len(stack), stack[:min(3, len(stack))], id, at, got, code)
		}
	}
}

// The stack is asked ahead of all else: of a window that is not there, a rectangle, a colour, a place.
func TestPaintWrongStacks(t *testing.T) {
	calls := slices.Concat(paintCalls(1, rect(0, 0, 1, 1), 0, 0, 0), paintCalls(195, rect(0, 0, 1, 1), 256, 21, 0), paintCalls(128, rect(0, 0, 0, 1), 5, 5, 5),
		paintCalls(math.MinInt64, impl.Rect{}, -1, 0, -21), paintCalls(65, rect(21, 0, 1, 1), math.MaxInt64, math.MinInt64, math.MaxInt64))
	for _, w := range wrongStacks() {
		checkStackCode(t, w.stack, calls, w.code)
		for _, id := range []int64{1, 195, 4, math.MaxInt64} {
			checkPointCode(t, w.stack, id, w.code)
		}
	}
}

// A window that is not there is none, be its id one or not, ahead of the rectangle, the colour and the place.
func TestPaintNoSuchWindow(t *testing.T) {
	for _, stack := range rightStacks() {
		ids := idsOfStack(stack)
		for _, id := range append(wrongIds(), allIds()...) {
			if slices.Contains(ids, id) {
				continue
			}
			checkStackCode(t, stack, paintCalls(id, rect(0, 0, 1, 1), 0, 0, 0), impl.ErrNone)
			checkStackCode(t, stack, paintCalls(id, rect(0, 0, 21, 1), 0, 0, 0), impl.ErrNone)
			checkStackCode(t, stack, paintCalls(id, rect(0, 0, 1, 1), 256, -21, 21), impl.ErrNone)
			checkStackCode(t, stack, paintCalls(id, impl.Rect{}, -1, math.MaxInt64, 0), impl.ErrNone)
			checkPointCode(t, stack, id, impl.ErrNone)
		}
	}
}

func TestPaintWrongRects(t *testing.T) {
	for _, size := range sizesToPaint() {
		p := stacksToPaint(size)[3]
		for _, r := range wrongRects() {
			checkStackCode(t, p.stack, paintCalls(p.id(), r, 0, 0, 0), impl.ErrRange)
			checkStackCode(t, p.stack, paintCalls(p.id(), r, 256, 21, -21), impl.ErrRange)
		}
	}
}

// A rectangle to paint may be greater than any window: it has the bounds of a rectangle alone.
func TestPaintRectsGreaterThanWindows(t *testing.T) {
	p := stacksToPaint(rect(0, 0, 8, 6))[1]
	for _, r := range append(tooGreatRects(), rect(20, 20, 20, 20), rect(-20, -20, 20, 20)) {
		checkFill(t, p, r, 9)
		checkCopy(t, p, r, 2, 1)
	}
}

func TestFillWrongColours(t *testing.T) {
	for _, size := range sizesToPaint() {
		for _, p := range stacksToPaint(size) {
			for _, colour := range wrongCellValues() {
				for _, r := range []impl.Rect{rect(0, 0, 1, 1), rect(-5, -5, 20, 20), rect(20, 20, 1, 1)} {
					if got := impl.FillWindow(p.stack, p.id(), r, colour); !isNoStack(got, impl.ErrRange) {
						t.Errorf("FillWindow of %v, %v, %d = %v", size, r, colour, got)
					}
				}
			}
		}
	}
	for colour := int64(-3); colour <= 258; colour++ {
		p := stacksToPaint(rect(0, 0, 3, 2))[0]
		if colour >= 0 && colour <= 255 {
			checkFill(t, p, rect(1, 0, 2, 1), colour)
		} else if got := impl.FillWindow(p.stack, p.id(), rect(1, 0, 2, 1), colour); !isNoStack(got, impl.ErrRange) {
			t.Errorf("FillWindow with %d = %v", colour, got)
		}
	}
}

func TestCopyWrongPlaces(t *testing.T) {
	for _, size := range sizesToPaint() {
		p := stacksToPaint(size)[2]
		for _, wrong := range append(wrongPlaces(), math.MaxInt64-20, math.MinInt64+20) {
			for _, to := range []point{{wrong, 0}, {0, wrong}, {wrong, wrong}, {wrong, 20}, {-20, wrong}, {wrong, math.MinInt64}, {math.MaxInt64, wrong}} {
				for _, r := range []impl.Rect{rect(0, 0, 1, 1), rect(-20, -20, 20, 20), rect(20, 20, 20, 20)} {
					if got := impl.CopyWindow(p.stack, p.id(), r, to.x, to.y); !isNoStack(got, impl.ErrRange) {
						t.Errorf("CopyWindow of %v, %v to %v = %v", size, r, to, got)
					}
				}
			}
		}
	}
}

// A window alone is asked as a stack of one, its id too, wherever the point is.
func TestCellOfWrongWindows(t *testing.T) {
	wrong := wrongWindows(130)
	for _, id := range wrongIds() {
		noCells := pointWindow(id)
		noCells.Cells = nil
		wrong = append(wrong, wrongWindow{pointWindow(id), impl.ErrRange}, wrongWindow{noCells, impl.ErrRange})
	}
	wrong = append(wrong, wrongWindow{impl.Window{}, impl.ErrRange})
	for _, w := range wrong {
		for _, at := range []point{{0, 0}, {-1, 0}, {0, 6}, {math.MaxInt64, math.MinInt64}} {
			if got := impl.CellAt(w.w, at.x, at.y); got != (impl.IntResult{Code: w.code}) {
				t.Errorf("CellAt of %v at %v = %v, not code %d", w.w, at, got, w.code)
			}
		}
	}
}

// paintByTurn paints by number, and tells by hand what it is asked for.
func paintByTurn(p paintTurn, number int) (got impl.StackResult, want []impl.Window) {
	r := rect(int64(number%23-11), int64(number/3%19-9), int64(number/5%12+1), int64(number/7%10+1))
	if number%3 == 0 {
		colour := int64(number / 11 % 256)
		return impl.FillWindow(p.stack, p.id(), r, colour), filledByHand(p, r, colour)
	}
	x, y := int64(number/13%21-10), int64(number/17%19-9)
	return impl.CopyWindow(p.stack, p.id(), r, x, y), copiedByHand(p, r, x, y)
}

// Long runs of all that is painted, now in one window, now in another one: each answer is the next one's stack.
func TestPaintTurns(t *testing.T) {
	for seed := range 10 {
		stack := fullStack()
		number := uint32(seed*7919 + 5)
		for step := range 600 {
			number = number*1664525 + 1013904223
			p := paintTurn{stack, int(number>>8) % 12}
			got, want := paintByTurn(p, int(number>>10))
			if !isStack(got, 0, want) {
				t.Fatalf("seed %d, step %d, %d: %v, not %v", seed, step, number>>10, got, want)
			}
			stack = got.Stack
		}
		for place := range stack {
			checkPoints(t, paintTurn{stack, place})
		}
	}
}

func paintAll(stack []impl.Window, id int64) {
	for _, call := range slices.Concat(paintCalls(id, rect(0, 0, 3, 2), 9, 1, 1), paintCalls(id, rect(-20, -20, 20, 20), 256, 21, 0), paintCalls(id, impl.Rect{}, 1, 1, 1),
		paintCalls(id, rect(0, 0, 20, 20), 255, 0, 0), paintCalls(id, rect(1, 1, 20, 20), 0, -1, 0)) {
		call.ask(stack)
	}
	impl.PointOf(stack, id, 0, 0)
	impl.PointOf(stack, id, 9, 9)
	for _, w := range stack {
		impl.CellAt(w, 0, 0)
		impl.CellAt(w, -1, 0)
	}
}

// What lies around a list, and behind its end, is as it was, too.
func TestPaintChangesNoArgument(t *testing.T) {
	stacks := rightStacks()
	for _, w := range withSeveralFaults() {
		stacks = append(stacks, w.stack)
	}
	for _, stack := range stacks {
		inside, windows, cells := stackInMemory(stack)
		wasWindows, wasCells := cloneStack(windows), slices.Clone(cells)
		for _, id := range append(idsOfStack(stack), 0, 130) {
			paintAll(inside, id)
			if !sameStackByHand(windows, wasWindows) || !slices.Equal(cells, wasCells) {
				t.Fatalf("%v with %d: changed to %v, %v", stack, id, windows, cells)
			}
		}
	}
}

func TestPaintAnswersAreNew(t *testing.T) {
	stacks := rightStacks()
	for _, size := range sizesToPaint() {
		for _, p := range stacksToPaint(size) {
			stacks = append(stacks, p.stack)
		}
	}
	for _, stack := range stacks {
		for _, w := range stack {
			// Nothing of the second rectangle is in a window: an answer in which nothing turns is new memory, too.
			for _, call := range slices.Concat(paintCalls(w.Id, rect(0, 0, 2, 2), 5, 1, 0), paintCalls(w.Id, rect(20, 20, 1, 1), 5, 0, 0)) {
				checkStackIsNew(t, stack, call)
			}
		}
	}
}

// Windows of a stack may share their cells: what is painted in one is not in the others.
func TestPaintWithSharedCells(t *testing.T) {
	memory := cellsFrom(5, 12)
	stack := []impl.Window{{Id: 1, Rect: rect(0, 0, 3, 2), Cells: memory[:6]}, {Id: 65, Rect: rect(1, 1, 2, 3), Mapped: true, Cells: memory[:6]},
		{Id: 2, Rect: rect(2, 2, 2, 2), Cells: memory[4:8]}, {Id: 195, Rect: rect(0, 1, 6, 1), Cells: memory[6:]}}
	for place := range stack {
		p := paintTurn{stack, place}
		for _, r := range []impl.Rect{rect(0, 0, 1, 1), rect(1, 0, 20, 20), rect(-1, -1, 3, 3)} {
			checkFill(t, p, r, 99)
			checkCopy(t, p, r, 1, 0)
			for _, call := range paintCalls(p.id(), r, 99, 1, 0) {
				checkCellsAlone(t, call.name, func() impl.StackResult { return call.ask(stack) })
			}
		}
	}
	if !slices.Equal(memory, cellsFrom(5, 12)) {
		t.Errorf("the shared cells turned to %v", memory)
	}
}

// paintAnswers holds what the functions of the chapter answer at one stack.
type paintAnswers struct {
	filled, copied impl.StackResult
	point, cell    impl.IntResult
}

func paintAnswersAt(stack []impl.Window, id, number int64) paintAnswers {
	answers := paintAnswers{
		filled: impl.FillWindow(stack, id, rect(number%5-2, 1, 3, 1), number%260-2),
		copied: impl.CopyWindow(stack, id, rect(0, number%3, 4, number%23), number%7-3, 1),
		point:  impl.PointOf(stack, id, number%4, number%3),
	}
	if len(stack) > 0 {
		answers.cell = impl.CellAt(stack[len(stack)/2], number%4, number%3)
	}
	return answers
}

func samePaintAnswers(a, b paintAnswers) bool {
	return sameStackResults(a.filled, b.filled) && sameStackResults(a.copied, b.copied) && a.point == b.point && a.cell == b.cell
}

// Asked again, in another order and with other calls between, every answer is the same.
func TestPaintKeepsNothing(t *testing.T) {
	stacks := rightStacks()
	for _, w := range withSeveralFaults() {
		stacks = append(stacks, w.stack)
	}
	at := func(i int) paintAnswers {
		return paintAnswersAt(stacks[i*7%len(stacks)], append(allIds(), 0, 4)[i%14], int64(i))
	}
	const turns = 5000
	var first []paintAnswers
	for i := range turns {
		first = append(first, at(i))
	}
	for i := turns - 1; i >= 0; i-- {
		if again := at(i); !samePaintAnswers(again, first[i]) {
			t.Errorf("at %d: first %v, then %v", i, first[i], again)
		}
	}
}
