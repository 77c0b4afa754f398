package tests

import (
	"math"
	"slices"
	"testing"

	"loop.example/g00545/impl"
)

// idsOfSlots has the ids of each slot, written out by hand.
var idsOfSlots = [4][3]int64{{1, 2, 3}, {65, 66, 67}, {129, 130, 131}, {193, 194, 195}}

// lowestFree has, for each set of a slot's used ids (1 for the first one, 2 for the second, 4 for the third), the place of the lowest free one; 3: none is free.
var lowestFree = [8]int{0, 1, 0, 2, 0, 1, 0, 3}

func allIds() []int64 {
	var all []int64
	for _, ids := range idsOfSlots {
		all = append(all, ids[:]...)
	}
	return all
}

// isOfSlot looks id up among those written out by hand.
func isOfSlot(id, slot int64) bool {
	return slices.Contains(idsOfSlots[slot][:], id)
}

// wrongIds has the neighbours of all ids that are none themselves, and numbers that are one only if they are cut to fewer bits.
func wrongIds() []int64 {
	return []int64{0, 4, 5, 63, 64, 68, 69, 127, 128, 132, 191, 192, 196, 197, 255, 256, 257, 258, 259, 260, 321,
		-1, -2, -3, -4, -61, -62, -63, -64, -65, -127, -128, -191, -195, -255,
		1<<16 + 1, 1<<32 + 1, 1<<32 + 65, 1<<62 + 1, -1<<32 + 1,
		math.MaxInt64, math.MaxInt64 - 1, math.MinInt64, math.MinInt64 + 1, math.MinInt64 + 2, math.MinInt64 + 65}
}

// wrongSlots has numbers, too, that are a slot's own once they are multiplied by 64 and cut.
func wrongSlots() []int64 {
	return []int64{-1, 4, -2, -3, -4, 5, 7, 8, 63, 64, 65, 128, 255, 256, 257, 1 << 32, 1<<32 + 1, -1 << 32,
		1 << 58, 1<<58 + 1, -1 << 58, -1<<58 + 2, math.MaxInt64, math.MaxInt64 - 1, math.MinInt64, math.MinInt64 + 1}
}

// usedSet is a set of ids: bit 3*slot and place is for that id of that slot.
type usedSet int

func (s usedSet) ofSlot(slot int64) int {
	return int(s) >> (3 * slot) & 7
}

func (s usedSet) ids() []int64 {
	var ids []int64
	for place, id := range allIds() {
		if int(s)>>place&1 == 1 {
			ids = append(ids, id)
		}
	}
	return ids
}

const allSets = usedSet(1 << 12)

// ordersOf has the list rising, falling, begun in its midst, and with its places stirred.
func ordersOf(ids []int64) [][]int64 {
	falling := slices.Clone(ids)
	slices.Reverse(falling)
	half := len(ids) / 2
	var stirred []int64
	for step := range 5 {
		for place := step; place < len(ids); place += 5 {
			stirred = append(stirred, ids[place])
		}
	}
	return [][]int64{slices.Clone(ids), falling, slices.Concat(ids[half:], ids[:half]), stirred}
}

// partByHand parts the list into those of slot and those of all others.
func partByHand(used []int64, slot int64) (own, others []int64) {
	for _, id := range used {
		if isOfSlot(id, slot) {
			own = append(own, id)
		} else {
			others = append(others, id)
		}
	}
	return own, others
}

func isInts(got impl.IntsResult, want []int64) bool {
	return got.Code == impl.OK && slices.Equal(got.List, want)
}

func isNoInts(got impl.IntsResult, code int64) bool {
	return got.Code == code && len(got.List) == 0
}

func TestThingConstants(t *testing.T) {
	if impl.MaxSlots != 4 || impl.MaxOwn != 3 || impl.SlotSize != 64 {
		t.Errorf("MaxSlots, MaxOwn, SlotSize: %d, %d, %d", impl.MaxSlots, impl.MaxOwn, impl.SlotSize)
	}
}

func TestSlotOf(t *testing.T) {
	for slot, ids := range idsOfSlots {
		for _, id := range ids {
			if got := impl.SlotOf(id); got != (impl.IntResult{Value: int64(slot)}) {
				t.Errorf("SlotOf(%d) = %v, not %d", id, got, slot)
			}
		}
	}
	for _, id := range wrongIds() {
		if got := impl.SlotOf(id); got != (impl.IntResult{Code: impl.ErrRange}) {
			t.Errorf("SlotOf(%d) = %v", id, got)
		}
	}
}

// Every number far around: an id is told as one just where it is written out by hand.
func TestSlotOfEverywhere(t *testing.T) {
	all := allIds()
	for id := int64(-1000); id <= 1000; id++ {
		want := impl.IntResult{Code: impl.ErrRange}
		if place := slices.Index(all, id); place >= 0 {
			want = impl.IntResult{Value: int64(place / 3)}
		}
		if got := impl.SlotOf(id); got != want {
			t.Errorf("SlotOf(%d) = %v, not %v", id, got, want)
		}
	}
}

func TestNextIdByHand(t *testing.T) {
	cases := []struct {
		used []int64
		slot int64
		want impl.IntResult
	}{
		{nil, 0, impl.IntResult{Value: 1}},
		{nil, 1, impl.IntResult{Value: 65}},
		{[]int64{}, 2, impl.IntResult{Value: 129}},
		{[]int64{}, 3, impl.IntResult{Value: 193}},
		{[]int64{65, 66}, 1, impl.IntResult{Value: 67}},
		{[]int64{65, 1, 66}, 1, impl.IntResult{Value: 67}},
		{[]int64{65, 1, 66}, 0, impl.IntResult{Value: 2}},
		{[]int64{65, 1, 66}, 3, impl.IntResult{Value: 193}},
		{[]int64{67}, 1, impl.IntResult{Value: 65}},
		{[]int64{67, 65}, 1, impl.IntResult{Value: 66}},
		{[]int64{3, 2}, 0, impl.IntResult{Value: 1}},
		{[]int64{195, 193}, 3, impl.IntResult{Value: 194}},
		{[]int64{65, 66, 67}, 1, impl.IntResult{Code: impl.ErrFull}},
		{[]int64{67, 1, 65, 131, 66}, 1, impl.IntResult{Code: impl.ErrFull}},
		{[]int64{3, 1, 2}, 0, impl.IntResult{Code: impl.ErrFull}},
		{[]int64{194, 195, 193}, 3, impl.IntResult{Code: impl.ErrFull}},
	}
	for _, c := range cases {
		if got := impl.NextId(c.used, c.slot); got != c.want {
			t.Errorf("NextId(%v, %d) = %v, not %v", c.used, c.slot, got, c.want)
		}
	}
}

// Every set of used ids, in several orders: what a slot is told hangs on its own ids alone.
func TestNextIdEverySet(t *testing.T) {
	for set := range allSets {
		for _, used := range ordersOf(set.ids()) {
			for slot, ids := range idsOfSlots {
				want := impl.IntResult{Code: impl.ErrFull}
				if place := lowestFree[set.ofSlot(int64(slot))]; place < 3 {
					want = impl.IntResult{Value: ids[place]}
				}
				if got := impl.NextId(used, int64(slot)); got != want {
					t.Fatalf("NextId(%v, %d) = %v, not %v", used, slot, got, want)
				}
			}
		}
	}
}

// A new id put to the used ones makes a right list: it is of its slot, and nobody has it.
func TestNextIdMayBeUsed(t *testing.T) {
	for set := range allSets {
		used := set.ids()
		for slot := range int64(4) {
			next := impl.NextId(used, slot)
			if next.Code == impl.ErrFull {
				continue
			}
			more := append(slices.Clone(used), next.Value)
			if impl.IdsFault(more) != impl.OK || impl.SlotOf(next.Value) != (impl.IntResult{Value: slot}) {
				t.Fatalf("NextId(%v, %d) = %v: not a new id of that slot", used, slot, next)
			}
		}
	}
}

// Slots that take ids by turns get their own three each, as if they were alone, and then none.
func TestNextIdByTurns(t *testing.T) {
	var used []int64
	for place := range 3 {
		for _, slot := range []int64{2, 0, 3, 1} {
			got := impl.NextId(used, slot)
			if got != (impl.IntResult{Value: idsOfSlots[slot][place]}) {
				t.Fatalf("NextId(%v, %d) = %v", used, slot, got)
			}
			used = append(used, got.Value)
		}
	}
	for slot := range int64(4) {
		if got := impl.NextId(used, slot); got != (impl.IntResult{Code: impl.ErrFull}) {
			t.Errorf("NextId(%v, %d) = %v", used, slot, got)
		}
		// What one drops is free again, for it alone.
		left := impl.DropOwn(used, slot).List
		for other := range int64(4) {
			want := impl.IntResult{Code: impl.ErrFull}
			if other == slot {
				want = impl.IntResult{Value: idsOfSlots[slot][0]}
			}
			if got := impl.NextId(left, other); got != want {
				t.Errorf("NextId(%v, %d) = %v, not %v", left, other, got, want)
			}
		}
	}
}

func TestOwnAndDropByHand(t *testing.T) {
	all := allIds()
	cases := []struct {
		used      []int64
		slot      int64
		own, left []int64
	}{
		{nil, 0, nil, nil},
		{[]int64{}, 3, nil, nil},
		{[]int64{65, 1, 66}, 1, []int64{65, 66}, []int64{1}},
		{[]int64{65, 1, 66}, 0, []int64{1}, []int64{65, 66}},
		{[]int64{65, 1, 66}, 2, nil, []int64{65, 1, 66}},
		{[]int64{66, 1, 65}, 1, []int64{66, 65}, []int64{1}},
		{[]int64{67, 195, 65, 2, 66, 1}, 1, []int64{67, 65, 66}, []int64{195, 2, 1}},
		{[]int64{67, 195, 65, 2, 66, 1}, 3, []int64{195}, []int64{67, 65, 2, 66, 1}},
		{[]int64{3, 2, 1}, 0, []int64{3, 2, 1}, nil},
		{[]int64{193, 195, 194}, 3, []int64{193, 195, 194}, nil},
		{all, 0, []int64{1, 2, 3}, all[3:]},
		{all, 3, []int64{193, 194, 195}, all[:9]},
		{all, 2, []int64{129, 130, 131}, []int64{1, 2, 3, 65, 66, 67, 193, 194, 195}},
	}
	for _, c := range cases {
		if got := impl.OwnOf(c.used, c.slot); !isInts(got, c.own) {
			t.Errorf("OwnOf(%v, %d) = %v, not %v", c.used, c.slot, got, c.own)
		}
		if got := impl.DropOwn(c.used, c.slot); !isInts(got, c.left) {
			t.Errorf("DropOwn(%v, %d) = %v, not %v", c.used, c.slot, got, c.left)
		}
	}
}

// Every set of used ids, in several orders: both keep the order, and together they have as many as the list.
func TestOwnAndDropEverySet(t *testing.T) {
	for set := range allSets {
		for _, used := range ordersOf(set.ids()) {
			for slot := range int64(4) {
				wantOwn, wantLeft := partByHand(used, slot)
				own, left := impl.OwnOf(used, slot), impl.DropOwn(used, slot)
				if !isInts(own, wantOwn) || !isInts(left, wantLeft) || len(own.List)+len(left.List) != len(used) {
					t.Fatalf("OwnOf, DropOwn (%v, %d) = %v, %v, not %v, %v", used, slot, own, left, wantOwn, wantLeft)
				}
			}
		}
	}
}

func TestDropAllSlots(t *testing.T) {
	for set := range allSets {
		used := set.ids()
		for _, slot := range []int64{1, 3, 0, 2} {
			used = impl.DropOwn(used, slot).List
			if own := impl.OwnOf(used, slot); !isInts(own, nil) {
				t.Fatalf("of %v, %d dropped: OwnOf = %v", set.ids(), slot, own)
			}
		}
		if len(used) != 0 {
			t.Fatalf("of %v all slots dropped: %v is left", set.ids(), used)
		}
	}
}

// wrongUsed is a list with the code that the document asks of it.
type wrongUsed struct {
	used []int64
	code int64
}

func withTooMany() []wrongUsed {
	all := allIds()
	lists := []wrongUsed{{append(slices.Clone(all), 1), impl.ErrMany}, {append(slices.Clone(all), 0), impl.ErrMany},
		{append([]int64{math.MinInt64}, all...), impl.ErrMany}, {append([]int64{1}, all...), impl.ErrMany}}
	// How many there are is asked ahead of what they are.
	for _, size := range []int{13, 14, 24, 255, 256, 257, 268, 1 << 16} {
		for _, id := range []int64{0, 1, 195, 196, math.MaxInt64} {
			lists = append(lists, wrongUsed{slices.Repeat([]int64{id}, size), impl.ErrMany})
		}
	}
	return lists
}

func withWrongIds() []wrongUsed {
	all := allIds()
	var lists []wrongUsed
	for _, wrong := range wrongIds() {
		lists = append(lists, wrongUsed{[]int64{wrong}, impl.ErrRange}, wrongUsed{[]int64{wrong, wrong}, impl.ErrRange},
			wrongUsed{slices.Repeat([]int64{wrong}, 12), impl.ErrRange})
		for place := range all {
			list := slices.Clone(all)
			list[place] = wrong
			lists = append(lists, wrongUsed{list, impl.ErrRange}, wrongUsed{list[:place+1], impl.ErrRange})
		}
	}
	return lists
}

// withTwice has each id twice, side by side and with up to ten others between, alone and among others.
func withTwice() []wrongUsed {
	all := allIds()
	var lists []wrongUsed
	for place, id := range all {
		lists = append(lists, wrongUsed{[]int64{id, id}, impl.ErrState}, wrongUsed{slices.Repeat([]int64{id}, 12), impl.ErrState})
		for later := place + 1; later < len(all); later++ {
			list := slices.Clone(all)
			list[later] = id
			lists = append(lists, wrongUsed{list, impl.ErrState}, wrongUsed{list[place : later+1], impl.ErrState})
		}
	}
	return lists
}

// withSeveral has lists in which the first id that has a fault is told, whatever those behind it have.
func withSeveral() []wrongUsed {
	return []wrongUsed{
		{[]int64{1, 1, 0}, impl.ErrState},
		{[]int64{1, 0, 1}, impl.ErrRange},
		{[]int64{0, 1, 1}, impl.ErrRange},
		{[]int64{0, 0}, impl.ErrRange},
		{[]int64{4, 65, 4}, impl.ErrRange},
		{[]int64{65, 66, 65, 68}, impl.ErrState},
		{[]int64{65, 66, 68, 65}, impl.ErrRange},
		{[]int64{193, 193, 196, 196}, impl.ErrState},
		{[]int64{196, 196, 193, 193}, impl.ErrRange},
		{[]int64{3, 2, 1, 2, math.MinInt64}, impl.ErrState},
		{[]int64{3, 2, 1, math.MinInt64, 2}, impl.ErrRange},
		{[]int64{3, 2, 1, math.MaxInt64, 1, 64}, impl.ErrRange},
		{[]int64{65, 66, 67, 65}, impl.ErrState},
		{[]int64{65, 66, 67, 64}, impl.ErrRange},
		{[]int64{1, 1, 0, 2, 3, 65, 66, 67, 129, 130, 131, 193, 194}, impl.ErrMany},
		{[]int64{0, 1, 1, 2, 3, 65, 66, 67, 129, 130, 131, 193, 194}, impl.ErrMany},
	}
}

func wrongLists() []wrongUsed {
	return slices.Concat(withTooMany(), withWrongIds(), withTwice(), withSeveral())
}

func TestIdsFault(t *testing.T) {
	for _, nothing := range [][]int64{nil, {}} {
		if got := impl.IdsFault(nothing); got != impl.OK {
			t.Errorf("IdsFault(%v) = %d", nothing, got)
		}
	}
	for set := range allSets {
		for _, used := range ordersOf(set.ids()) {
			if got := impl.IdsFault(used); got != impl.OK {
				t.Fatalf("IdsFault(%v) = %d", used, got)
			}
		}
	}
	for _, w := range wrongLists() {
		if got := impl.IdsFault(w.used); got != w.code {
			t.Errorf("IdsFault of %d, %v.. = %d, not %d", len(w.used), w.used[:min(13, len(w.used))], got, w.code)
		}
	}
}

// Every list of up to four numbers out of a few right and wrong ones, asked one by one by hand.
func TestIdsFaultEverywhere(t *testing.T) {
	layer := [][]int64{nil}
	for range 4 {
		var longer [][]int64
		for _, list := range layer {
			for _, id := range []int64{0, 1, 3, 4, 65, 195, 196, -1} {
				longer = append(longer, append(slices.Clone(list), id))
			}
		}
		layer = longer
		for _, list := range layer {
			if got, want := impl.IdsFault(list), faultByHand(list); got != want {
				t.Errorf("IdsFault(%v) = %d, not %d", list, got, want)
			}
		}
	}
}

func faultByHand(list []int64) int64 {
	for place, id := range list {
		if !slices.Contains(allIds(), id) {
			return impl.ErrRange
		}
		if slices.Contains(list[:place], id) {
			return impl.ErrState
		}
	}
	return impl.OK
}

// checkCode asks that all three functions with a slot tell just that code.
func checkCode(t *testing.T, used []int64, slot, code int64) {
	t.Helper()
	next, own, left := impl.NextId(used, slot), impl.OwnOf(used, slot), impl.DropOwn(used, slot)
	if next != (impl.IntResult{Code: code}) || !isNoInts(own, code) || !isNoInts(left, code) {
		t.Errorf("NextId, OwnOf, DropOwn of %d, %v.., slot %d = %v, %v, %v, not code %d",
			len(used), used[:min(13, len(used))], slot, next, own, left, code)
	}
}

// The ids are asked ahead of the slot, and ahead of whether there is room.
func TestWrongIdsAndSlots(t *testing.T) {
	for _, w := range wrongLists() {
		for slot := range int64(4) {
			checkCode(t, w.used, slot, w.code)
		}
		for _, slot := range wrongSlots() {
			checkCode(t, w.used, slot, w.code)
		}
	}
}

// A wrong slot is told ahead of whether there is room.
func TestWrongSlots(t *testing.T) {
	for _, slot := range wrongSlots() {
		for _, used := range [][]int64{nil, {}, {1}, {65, 1, 66}, {1, 2, 3}, {193, 194, 195}, allIds()} {
			checkCode(t, used, slot, impl.ErrRange)
		}
	}
}

// The list lies in the midst of a memory: neither it nor what is around it turns.
func TestThingsChangeNoArgument(t *testing.T) {
	lists := [][]int64{nil, {1}, {65, 1, 66}, {67, 195, 65, 2, 66, 1}, allIds(), append(allIds(), 1), {0, 1}, {1, 1}, {3, 2, 1, 2, 0}}
	for _, list := range lists {
		memory := slices.Concat([]int64{7, 7}, list, []int64{7, 7, 7, 7})
		was := slices.Clone(memory)
		used := memory[2 : 2+len(list)]
		for slot := int64(-1); slot <= 4; slot++ {
			impl.NextId(used, slot)
			impl.IdsFault(used)
			impl.OwnOf(used, slot)
			impl.DropOwn(used, slot)
			if !slices.Equal(memory, was) {
				t.Fatalf("%v with slot %d: changed to %v", was, slot, memory)
			}
		}
	}
}

func overwriteInts(list []int64) {
	all := list[:cap(list)]
	for place := range all {
		all[place] = 77
	}
}

func TestThingsAnswersAreNew(t *testing.T) {
	calls := []func([]int64, int64) impl.IntsResult{impl.OwnOf, impl.DropOwn}
	lists := [][]int64{{1}, {65, 1, 66}, {65, 66, 67}, {67, 195, 65, 2, 66, 1}, {3, 2, 1, 131}, allIds()}
	for _, list := range lists {
		for slot := range int64(4) {
			for place, call := range calls {
				used := slices.Clone(list)
				one, other, kept := call(used, slot).List, call(used, slot).List, call(used, slot).List
				beside := calls[1-place](used, slot).List
				wasKept, wasBeside := slices.Clone(kept), slices.Clone(beside)
				overwriteInts(one)
				_ = append(one, 77, 77, 77)
				if !slices.Equal(used, list) || !slices.Equal(other, wasKept) || !slices.Equal(beside, wasBeside) {
					t.Errorf("%v, slot %d, call %d: turned with an answer: %v, %v, %v", list, slot, place, used, other, beside)
				}
				overwriteInts(used)
				if !slices.Equal(kept, wasKept) || !slices.Equal(beside, wasBeside) {
					t.Errorf("%v, slot %d, call %d: turned with the argument: %v, %v", list, slot, place, kept, beside)
				}
			}
		}
	}
}

// thingAnswers holds what the functions of the chapter answer at one list, one slot and one id.
type thingAnswers struct {
	slot, next impl.IntResult
	fault      int64
	own, left  impl.IntsResult
}

func thingAnswersAt(used []int64, slot, id int64) thingAnswers {
	return thingAnswers{slot: impl.SlotOf(id), next: impl.NextId(used, slot), fault: impl.IdsFault(used),
		own: impl.OwnOf(used, slot), left: impl.DropOwn(used, slot)}
}

func sameThingAnswers(a, b thingAnswers) bool {
	return a.slot == b.slot && a.next == b.next && a.fault == b.fault && a.own.Code == b.own.Code && a.left.Code == b.left.Code &&
		slices.Equal(a.own.List, b.own.List) && slices.Equal(a.left.List, b.left.List)
}

// Asked again, in another order and with other calls between, every answer is the same.
func TestThingsKeepNothing(t *testing.T) {
	wrong := wrongLists()
	at := func(i int) thingAnswers {
		used := ordersOf(usedSet(i * 7 % int(allSets)).ids())[i%4]
		if i%5 == 0 {
			used = wrong[i%len(wrong)].used
		}
		return thingAnswersAt(used, int64(i%6-1), int64(i%200))
	}
	const turns = 4000
	var first []thingAnswers
	for i := range turns {
		first = append(first, at(i))
	}
	for i := turns - 1; i >= 0; i-- {
		if again := at(i); !sameThingAnswers(again, first[i]) {
			t.Errorf("at %d: first %v, then %v", i, first[i], again)
		}
	}
}
