package tests

import (
	"maps"
	"math"
	"slices"
	"testing"

	"loop.example/g00545/impl"
)

type point struct{ x, y int64 }

// span is what a rectangle has along one side: where it begins, and how long it is.
type span struct{ from, length int64 }

func rect(x, y, width, height int64) impl.Rect {
	return impl.Rect{X: x, Y: y, Width: width, Height: height}
}

func rectsOfSpans(spans []span) []impl.Rect {
	var all []impl.Rect
	for _, across := range spans {
		for _, down := range spans {
			all = append(all, rect(across.from, down.from, across.length, down.length))
		}
	}
	return all
}

// smallRects lie in every way to each other: apart, side by side, over one another, within one another, the same.
func smallRects() []impl.Rect {
	var spans []span
	for from := range int64(4) {
		for length := range int64(3) {
			spans = append(spans, span{from - 1, length + 1})
		}
	}
	return rectsOfSpans(spans)
}

// edgeRects have their numbers at the bounds, or beside them.
func edgeRects() []impl.Rect {
	return rectsOfSpans([]span{{-20, 1}, {-20, 20}, {-19, 19}, {-1, 20}, {0, 1}, {1, 20}, {19, 2}, {20, 1}, {20, 20}})
}

func wrongRects() []impl.Rect {
	var wrong []impl.Rect
	for _, place := range []int64{-21, 21, -22, 40, 256, -256, 1 << 32, -1 << 32,
		math.MaxInt64, math.MaxInt64 - 1, math.MinInt64, math.MinInt64 + 1} {
		wrong = append(wrong, rect(place, 0, 3, 3), rect(0, place, 3, 3), rect(place, place, 1, 1), rect(place, 20, 20, 20))
	}
	for _, length := range []int64{0, -1, 21, 22, -20, 256, 257, 1 << 32, 1<<32 + 1, -1 << 32,
		math.MaxInt64, math.MaxInt64 - 1, math.MinInt64, math.MinInt64 + 1} {
		wrong = append(wrong, rect(0, 0, length, 3), rect(0, 0, 3, length), rect(-20, 20, length, length), rect(20, -20, length, 1))
	}
	return append(wrong, impl.Rect{}, rect(21, 21, 21, 21), rect(-21, -21, 0, 0),
		rect(math.MaxInt64, math.MaxInt64, math.MaxInt64, math.MaxInt64),
		rect(math.MinInt64, math.MinInt64, math.MinInt64, math.MinInt64))
}

func farNumbers() []int64 {
	return []int64{-21, 40, 41, 256, -256, 1 << 32, -1 << 32, math.MaxInt64, math.MaxInt64 - 1, math.MinInt64, math.MinInt64 + 1}
}

func pointsIn(r impl.Rect) map[point]int {
	points := map[point]int{}
	for right := range r.Width {
		for down := range r.Height {
			points[point{r.X + right, r.Y + down}]++
		}
	}
	return points
}

// around is the rectangle from the least to the greatest of points, which are not none.
func around(points []point) impl.Rect {
	least, most := points[0], points[0]
	for _, p := range points {
		least = point{min(least.x, p.x), min(least.y, p.y)}
		most = point{max(most.x, p.x), max(most.y, p.y)}
	}
	return rect(least.x, least.y, most.x-least.x+1, most.y-least.y+1)
}

// cutByPoints and lessByPoints ask every point of a by itself.
func cutByPoints(a, b impl.Rect) []impl.Rect {
	var both []point
	others := pointsIn(b)
	for p := range pointsIn(a) {
		if others[p] != 0 {
			both = append(both, p)
		}
	}
	if len(both) == 0 {
		return nil
	}
	return []impl.Rect{around(both)}
}

func lessByPoints(a, b impl.Rect) []impl.Rect {
	var groups [4][]point
	others := pointsIn(b)
	for p := range pointsIn(a) {
		switch {
		case others[p] != 0:
		case p.y < b.Y:
			groups[0] = append(groups[0], p)
		case p.y > b.Y+b.Height-1:
			groups[3] = append(groups[3], p)
		case p.x < b.X:
			groups[1] = append(groups[1], p)
		default:
			groups[2] = append(groups[2], p)
		}
	}
	var list []impl.Rect
	for _, group := range groups {
		if len(group) > 0 {
			list = append(list, around(group))
		}
	}
	return list
}

func sameRects(got impl.RectsResult, want []impl.Rect) bool {
	return got.Code == impl.OK && slices.Equal(got.List, want)
}

func TestScreenConstants(t *testing.T) {
	if impl.ScreenWidth != 12 || impl.ScreenHeight != 8 {
		t.Errorf("screen: %d by %d", impl.ScreenWidth, impl.ScreenHeight)
	}
}

func TestRectFault(t *testing.T) {
	right := append(smallRects(), edgeRects()...)
	for _, r := range right {
		if got := impl.RectFault(r); got != impl.OK {
			t.Errorf("RectFault(%v) = %d", r, got)
		}
	}
	for _, r := range wrongRects() {
		if got := impl.RectFault(r); got != impl.ErrRange {
			t.Errorf("RectFault(%v) = %d", r, got)
		}
	}
}

// Each number is asked for its own bounds, whatever the other three are.
func TestRectFaultBounds(t *testing.T) {
	places := []int64{-21, -20, 0, 20, 21}
	lengths := []int64{0, 1, 12, 20, 21}
	for i, x := range places {
		for j, y := range places {
			for k, width := range lengths {
				for l, height := range lengths {
					want := int64(impl.OK)
					for _, choice := range [4]int{i, j, k, l} {
						if choice == 0 || choice == 4 {
							want = impl.ErrRange
						}
					}
					if got := impl.RectFault(rect(x, y, width, height)); got != want {
						t.Errorf("RectFault(%d, %d, %d by %d) = %d", x, y, width, height, got)
					}
				}
			}
		}
	}
}

func TestHasPoint(t *testing.T) {
	for _, r := range append(smallRects(), edgeRects()...) {
		points := pointsIn(r)
		for x := int64(-22); x <= 41; x++ {
			for y := int64(-22); y <= 41; y++ {
				if got := impl.HasPoint(r, x, y); got != (points[point{x, y}] != 0) {
					t.Errorf("HasPoint(%v, %d, %d) = %v", r, x, y, got)
				}
			}
		}
	}
}

func TestHasPointFar(t *testing.T) {
	for _, r := range edgeRects() {
		for _, far := range farNumbers() {
			if impl.HasPoint(r, far, r.Y) || impl.HasPoint(r, r.X, far) || impl.HasPoint(r, far, far) {
				t.Errorf("%v has a point at %d", r, far)
			}
		}
	}
}

func TestHasPointWrong(t *testing.T) {
	for _, r := range wrongRects() {
		for _, p := range []point{{0, 0}, {r.X, r.Y}, {r.X + 1, r.Y + 1}, {r.X - 1, r.Y}, {1, 1}, {-20, -20}, {20, 20}} {
			if impl.HasPoint(r, p.x, p.y) {
				t.Errorf("HasPoint(%v, %v)", r, p)
			}
		}
	}
}

func TestCutAndLessByHand(t *testing.T) {
	cases := []struct {
		name      string
		a, b      impl.Rect
		cut, less []impl.Rect
	}{
		{"b within a", rect(0, 0, 3, 3), rect(1, 1, 1, 1), []impl.Rect{rect(1, 1, 1, 1)},
			[]impl.Rect{rect(0, 0, 3, 1), rect(0, 1, 1, 1), rect(2, 1, 1, 1), rect(0, 2, 3, 1)}},
		{"a within b", rect(1, 1, 1, 1), rect(0, 0, 3, 3), []impl.Rect{rect(1, 1, 1, 1)}, nil},
		{"the same", rect(-3, 2, 5, 4), rect(-3, 2, 5, 4), []impl.Rect{rect(-3, 2, 5, 4)}, nil},
		{"a corner", rect(0, 0, 3, 3), rect(2, -1, 5, 2), []impl.Rect{rect(2, 0, 1, 1)},
			[]impl.Rect{rect(0, 0, 2, 1), rect(0, 1, 3, 2)}},
		{"the other corner", rect(0, 0, 4, 4), rect(-2, 3, 4, 9), []impl.Rect{rect(0, 3, 2, 1)},
			[]impl.Rect{rect(0, 0, 4, 3), rect(2, 3, 2, 1)}},
		{"a cross", rect(0, 2, 9, 2), rect(4, 0, 2, 9), []impl.Rect{rect(4, 2, 2, 2)},
			[]impl.Rect{rect(0, 2, 4, 2), rect(6, 2, 3, 2)}},
		{"a cross, turned", rect(4, 0, 2, 9), rect(0, 2, 9, 2), []impl.Rect{rect(4, 2, 2, 2)},
			[]impl.Rect{rect(4, 0, 2, 2), rect(4, 4, 2, 5)}},
		{"b right beside a, the same rows", rect(0, 0, 3, 3), rect(3, 0, 3, 3), nil, []impl.Rect{rect(0, 0, 3, 3)}},
		{"b left beside a, the same rows", rect(3, 0, 3, 3), rect(0, 0, 3, 3), nil, []impl.Rect{rect(3, 0, 3, 3)}},
		{"b below a, the same columns", rect(0, 0, 3, 3), rect(0, 3, 3, 3), nil, []impl.Rect{rect(0, 0, 3, 3)}},
		{"b above a, the same columns", rect(0, 3, 3, 3), rect(0, 0, 3, 3), nil, []impl.Rect{rect(0, 3, 3, 3)}},
		{"b right beside a, one row of it", rect(0, 0, 3, 3), rect(3, 1, 2, 1), nil,
			[]impl.Rect{rect(0, 0, 3, 1), rect(0, 1, 3, 1), rect(0, 2, 3, 1)}},
		{"b far left of a, one row of it", rect(0, 0, 3, 3), rect(-9, 1, 2, 1), nil,
			[]impl.Rect{rect(0, 0, 3, 1), rect(0, 1, 3, 1), rect(0, 2, 3, 1)}},
		{"b far right of a, its upper rows", rect(0, 0, 3, 3), rect(9, -5, 1, 7), nil,
			[]impl.Rect{rect(0, 0, 3, 2), rect(0, 2, 3, 1)}},
		{"b far below a, one column of it", rect(0, 0, 3, 3), rect(1, 9, 1, 2), nil, []impl.Rect{rect(0, 0, 3, 3)}},
		{"corners that touch", rect(0, 0, 3, 3), rect(3, 3, 3, 3), nil, []impl.Rect{rect(0, 0, 3, 3)}},
		{"all of a row", rect(0, 0, 3, 3), rect(-1, 1, 9, 1), []impl.Rect{rect(0, 1, 3, 1)},
			[]impl.Rect{rect(0, 0, 3, 1), rect(0, 2, 3, 1)}},
		{"the farthest corner", rect(20, 20, 20, 20), rect(20, 20, 1, 1), []impl.Rect{rect(20, 20, 1, 1)},
			[]impl.Rect{rect(21, 20, 19, 1), rect(20, 21, 20, 19)}},
		{"the nearest corner", rect(-20, -20, 20, 20), rect(-1, -1, 20, 20), []impl.Rect{rect(-1, -1, 1, 1)},
			[]impl.Rect{rect(-20, -20, 20, 19), rect(-20, -1, 19, 1)}},
	}
	for _, c := range cases {
		if got := impl.CutRects(c.a, c.b); !sameRects(got, c.cut) {
			t.Errorf("%s: CutRects = %v, not %v", c.name, got, c.cut)
		}
		if got := impl.LessRect(c.a, c.b); !sameRects(got, c.less) {
			t.Errorf("%s: LessRect = %v, not %v", c.name, got, c.less)
		}
	}
}

func TestCutAndLessEverywhere(t *testing.T) {
	for _, all := range [][]impl.Rect{smallRects(), edgeRects()} {
		for _, a := range all {
			for _, b := range all {
				if got := impl.CutRects(a, b); !sameRects(got, cutByPoints(a, b)) {
					t.Fatalf("CutRects(%v, %v) = %v, not %v", a, b, got, cutByPoints(a, b))
				}
				if got := impl.LessRect(a, b); !sameRects(got, lessByPoints(a, b)) {
					t.Fatalf("LessRect(%v, %v) = %v, not %v", a, b, got, lessByPoints(a, b))
				}
			}
		}
	}
}

// checkMakeUp: what both have and what a has alone is a, each point once.
func checkMakeUp(t *testing.T, a, b impl.Rect) {
	whole, count := pointsIn(a), map[point]int{}
	both, alone := impl.CutRects(a, b), impl.LessRect(a, b)
	for _, piece := range slices.Concat(both.List, alone.List) {
		for p := range pointsIn(piece) {
			count[p]++
		}
	}
	if both.Code != impl.OK || alone.Code != impl.OK || !maps.Equal(count, whole) {
		t.Fatalf("%v and %v: %v and %v do not make up the first", a, b, both, alone)
	}
}

func TestCutAndLessMakeUpOne(t *testing.T) {
	for _, all := range [][]impl.Rect{smallRects(), edgeRects()} {
		for _, a := range all {
			for _, b := range all {
				checkMakeUp(t, a, b)
			}
		}
	}
}

func TestCutAndLessWrong(t *testing.T) {
	for _, w := range wrongRects() {
		for _, other := range append(edgeRects(), w, impl.Rect{}) {
			for _, got := range []impl.RectsResult{
				impl.CutRects(w, other), impl.CutRects(other, w), impl.LessRect(w, other), impl.LessRect(other, w),
			} {
				if got.Code != impl.ErrRange || len(got.List) != 0 {
					t.Errorf("%v and %v: %v", w, other, got)
				}
			}
		}
	}
}

func TestAreaOf(t *testing.T) {
	great := slices.Repeat([]impl.Rect{rect(20, -20, 20, 20)}, 40)
	cases := []struct {
		list []impl.Rect
		want int64
	}{
		{nil, 0},
		{[]impl.Rect{}, 0},
		{[]impl.Rect{rect(0, 0, 1, 1)}, 1},
		{[]impl.Rect{rect(-20, 20, 20, 1)}, 20},
		{[]impl.Rect{rect(5, 6, 3, 4)}, 12},
		{[]impl.Rect{rect(0, 0, 3, 3), rect(1, 1, 1, 1)}, 10},
		{[]impl.Rect{rect(0, 0, 3, 3), rect(0, 0, 3, 3)}, 18},
		{[]impl.Rect{rect(0, 0, 3, 3), rect(3, 0, 2, 7), rect(-9, -9, 1, 5)}, 28},
		{great, 16000},
		{great[:39], 15600},
	}
	for _, c := range cases {
		if got := impl.AreaOf(c.list); got != (impl.IntResult{Value: c.want}) {
			t.Errorf("AreaOf(%v) = %v, not %d", c.list, got, c.want)
		}
	}
	for _, r := range append(smallRects(), edgeRects()...) {
		if got := impl.AreaOf([]impl.Rect{r}); got != (impl.IntResult{Value: int64(len(pointsIn(r)))}) {
			t.Errorf("AreaOf(%v) = %v", r, got)
		}
	}
}

func TestCoverOf(t *testing.T) {
	list := []impl.Rect{rect(0, 0, 9, 9), rect(1, 1, 3, 3), rect(5, 5, 1, 1), rect(2, 2, 3, 3), rect(-20, -20, 20, 20), rect(2, 2, 1, 1)}
	cases := []struct {
		x, y int64
		want impl.IntResult
	}{
		{0, 0, impl.IntResult{Value: 0}},
		{8, 8, impl.IntResult{Value: 0}},
		{1, 1, impl.IntResult{Value: 1}},
		{1, 3, impl.IntResult{Value: 1}},
		{5, 5, impl.IntResult{Value: 2}},
		{3, 3, impl.IntResult{Value: 3}},
		{4, 4, impl.IntResult{Value: 3}},
		{2, 2, impl.IntResult{Value: 5}},
		{2, 3, impl.IntResult{Value: 3}},
		{-1, -1, impl.IntResult{Value: 4}},
		{-20, -20, impl.IntResult{Value: 4}},
		{-1, 0, impl.IntResult{Code: impl.ErrNone}},
		{0, -1, impl.IntResult{Code: impl.ErrNone}},
		{9, 8, impl.IntResult{Code: impl.ErrNone}},
		{8, 9, impl.IntResult{Code: impl.ErrNone}},
		{-21, -20, impl.IntResult{Code: impl.ErrNone}},
	}
	for _, c := range cases {
		if got := impl.CoverOf(list, c.x, c.y); got != c.want {
			t.Errorf("CoverOf at %d, %d = %v, not %v", c.x, c.y, got, c.want)
		}
	}
	if got := impl.CoverOf(nil, 0, 0); got != (impl.IntResult{Code: impl.ErrNone}) {
		t.Errorf("CoverOf of nil = %v", got)
	}
	if got := impl.CoverOf([]impl.Rect{}, 0, 0); got != (impl.IntResult{Code: impl.ErrNone}) {
		t.Errorf("CoverOf of nothing = %v", got)
	}
}

// All of 40 small ones, each point asked by itself: the last that has it.
func TestCoverOfEverywhere(t *testing.T) {
	all := smallRects()
	for start := 0; start+40 <= len(all); start += 13 {
		list := all[start : start+40]
		for x := int64(-3); x <= 6; x++ {
			for y := int64(-3); y <= 6; y++ {
				want := impl.IntResult{Code: impl.ErrNone}
				for place, r := range list {
					if pointsIn(r)[point{x, y}] != 0 {
						want = impl.IntResult{Value: int64(place)}
					}
				}
				if got := impl.CoverOf(list, x, y); got != want {
					t.Errorf("CoverOf from %d on at %d, %d = %v, not %v", start, x, y, got, want)
				}
			}
		}
	}
}

func TestCoverOfFar(t *testing.T) {
	list := edgeRects()[:40]
	for _, far := range farNumbers() {
		for _, p := range []point{{far, 0}, {0, far}, {far, far}, {-20, far}, {far, 20}} {
			if got := impl.CoverOf(list, p.x, p.y); got != (impl.IntResult{Code: impl.ErrNone}) {
				t.Errorf("CoverOf at %v = %v", p, got)
			}
		}
	}
}

// A fault anywhere in the list is told, even where another rectangle has the point, or none has it.
func TestListsWrong(t *testing.T) {
	fault := impl.IntResult{Code: impl.ErrRange}
	for _, w := range wrongRects() {
		for _, size := range []int{1, 2, 5, 40} {
			for _, place := range []int{0, size / 2, size - 1} {
				list := slices.Repeat([]impl.Rect{rect(0, 0, 3, 3)}, size)
				list[place] = w
				if got := impl.AreaOf(list); got != fault {
					t.Errorf("AreaOf with %v at %d of %d = %v", w, place, size, got)
				}
				for _, p := range []point{{0, 0}, {30, 30}, {math.MaxInt64, math.MinInt64}} {
					if got := impl.CoverOf(list, p.x, p.y); got != fault {
						t.Errorf("CoverOf with %v at %d of %d, %v = %v", w, place, size, p, got)
					}
				}
			}
		}
	}
}

func TestListsTooLong(t *testing.T) {
	many := impl.IntResult{Code: impl.ErrMany}
	for _, size := range []int{41, 42, 80, 1000} {
		right := slices.Repeat([]impl.Rect{rect(0, 0, 3, 3)}, size)
		wrong := slices.Clone(right)
		wrong[0], wrong[size-1] = impl.Rect{}, impl.Rect{}
		for _, list := range [][]impl.Rect{right, wrong} {
			if got := impl.AreaOf(list); got != many {
				t.Errorf("AreaOf of %d = %v", size, got)
			}
			if got := impl.CoverOf(list, 0, 0); got != many {
				t.Errorf("CoverOf of %d = %v", size, got)
			}
			if got := impl.CoverOf(list, 30, 30); got != many {
				t.Errorf("CoverOf of %d, far away = %v", size, got)
			}
		}
	}
	full := slices.Repeat([]impl.Rect{rect(0, 0, 3, 3)}, 40)
	if got := impl.CoverOf(full, 1, 1); got != (impl.IntResult{Value: 39}) {
		t.Errorf("CoverOf of 40 = %v", got)
	}
}

// The list that is handed in, and what lies behind it, is as it was.
func TestRectsChangeNoArgument(t *testing.T) {
	for _, store := range [][]impl.Rect{edgeRects()[:50], wrongRects()[:50]} {
		was := slices.Clone(store)
		for _, size := range []int{0, 1, 40, 41} {
			impl.AreaOf(store[:size])
			impl.CoverOf(store[:size], 0, 0)
			impl.CoverOf(store[:size], 99, 99)
		}
		if !slices.Equal(store, was) {
			t.Errorf("changed: %v, was %v", store, was)
		}
	}
}

// What one answer's list is turned into is seen in no other answer.
func TestRectsAnswersAreNew(t *testing.T) {
	for _, a := range smallRects() {
		for _, b := range []impl.Rect{a, rect(1, 1, 1, 1), rect(9, 9, 1, 1), rect(0, 0, 3, 2)} {
			cut, less := impl.CutRects(a, b), impl.LessRect(a, b)
			wasCut, wasLess := slices.Clone(cut.List), slices.Clone(less.List)
			for _, list := range [][]impl.Rect{cut.List, less.List} {
				list = list[:cap(list)]
				for place := range list {
					list[place] = rect(7, 7, 7, 7)
				}
			}
			if again := impl.CutRects(a, b); !sameRects(again, wasCut) {
				t.Fatalf("CutRects(%v, %v): first %v, then %v", a, b, wasCut, again)
			}
			if again := impl.LessRect(a, b); !sameRects(again, wasLess) {
				t.Fatalf("LessRect(%v, %v): first %v, then %v", a, b, wasLess, again)
			}
		}
	}
}

// rectAnswers holds what the functions of the chapter answer at one pair of rectangles.
type rectAnswers struct {
	fault       int64
	has         bool
	cut, less   impl.RectsResult
	area, cover impl.IntResult
}

func rectAnswersAt(a, b impl.Rect) rectAnswers {
	list := []impl.Rect{a, b}
	return rectAnswers{
		fault: impl.RectFault(a), has: impl.HasPoint(a, b.X, b.Y),
		cut: impl.CutRects(a, b), less: impl.LessRect(a, b),
		area: impl.AreaOf(list), cover: impl.CoverOf(list, b.Y, a.X),
	}
}

func sameRectAnswers(a, b rectAnswers) bool {
	return a.fault == b.fault && a.has == b.has && a.area == b.area && a.cover == b.cover &&
		a.cut.Code == b.cut.Code && slices.Equal(a.cut.List, b.cut.List) &&
		a.less.Code == b.less.Code && slices.Equal(a.less.List, b.less.List)
}

// Asked again, in another order and with other calls between, every answer is the same.
func TestRectsKeepNothing(t *testing.T) {
	all := slices.Concat(edgeRects(), wrongRects(), smallRects())
	at := func(i int) rectAnswers { return rectAnswersAt(all[i], all[(i*7+3)%len(all)]) }
	var first []rectAnswers
	for i := range all {
		first = append(first, at(i))
	}
	for i := len(all) - 1; i >= 0; i-- {
		if again := at(i); !sameRectAnswers(again, first[i]) {
			t.Errorf("at %v: first %v, then %v", all[i], first[i], again)
		}
	}
}
