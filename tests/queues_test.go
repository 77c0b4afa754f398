package tests

import (
	"bytes"
	"math"
	"slices"
	"testing"

	"loop.example/g00545/impl"
)

// repliesByHand and eventsByHand part the kinds as the document names them.
var repliesByHand = [3]int64{1, 2, 3}
var eventsByHand = [4]int64{4, 5, 6, 7}

func msg(kind int64, body ...byte) impl.Msg {
	return impl.Msg{Kind: kind, Body: body}
}

func queue(over bool, items ...impl.Msg) impl.Queue {
	return impl.Queue{Items: items, Over: over}
}

func cloneMsgs(list []impl.Msg) []impl.Msg {
	var cloned []impl.Msg
	for _, m := range list {
		cloned = append(cloned, impl.Msg{Kind: m.Kind, Body: slices.Clone(m.Body)})
	}
	return cloned
}

func cloneQueue(q impl.Queue) impl.Queue {
	return impl.Queue{Items: cloneMsgs(q.Items), Over: q.Over}
}

func cloneQueueResult(r impl.QueueResult) impl.QueueResult {
	return impl.QueueResult{Code: r.Code, Items: cloneMsgs(r.Items), Queue: cloneQueue(r.Queue)}
}

func sameMsgByHand(a, b impl.Msg) bool {
	return a.Kind == b.Kind && bytes.Equal(a.Body, b.Body)
}

func sameMsgLists(a, b []impl.Msg) bool {
	return slices.EqualFunc(a, b, sameMsgByHand)
}

func sameQueueByHand(a, b impl.Queue) bool {
	return a.Over == b.Over && sameMsgLists(a.Items, b.Items)
}

func sameQueueResults(a, b impl.QueueResult) bool {
	return a.Code == b.Code && sameMsgLists(a.Items, b.Items) && sameQueueByHand(a.Queue, b.Queue)
}

func isQueue(got impl.QueueResult, items []impl.Msg, q impl.Queue) bool {
	return sameQueueResults(got, impl.QueueResult{Items: items, Queue: q})
}

func isNoQueue(got impl.QueueResult, code int64) bool {
	return sameQueueResults(got, impl.QueueResult{Code: code})
}

// mixedMsgs has messages of all kinds by turns, each of another body; every fifth one is empty.
func mixedMsgs(size int) []impl.Msg {
	var list []impl.Msg
	for place := range size {
		body := bytes.Repeat([]byte{byte(place + 1)}, place*7%31)
		if place%5 == 4 {
			body = nil
		}
		list = append(list, impl.Msg{Kind: int64(place*3%7 + 1), Body: body})
	}
	return list
}

// rightQueues has queues of every length, with Over and without it.
func rightQueues() []impl.Queue {
	var queues []impl.Queue
	for size := range 11 {
		queues = append(queues, queue(false, mixedMsgs(size)...), queue(true, mixedMsgs(size)...))
	}
	return queues
}

// wrongMsgKinds has the neighbours of all kinds, and numbers that are one only if they are cut to fewer bits.
func wrongMsgKinds() []int64 {
	return []int64{0, 8, -1, -7, 9, 10, 255, 256, 257, 263, -255, 1<<16 + 1, 1<<32 + 1, 1<<32 + 4, -1<<32 + 7, 1<<62 + 3,
		math.MaxInt64, math.MaxInt64 - 1, math.MinInt64, math.MinInt64 + 1, math.MinInt64 + 4}
}

func wrongCounts() []int64 {
	return []int64{-1, 11, -2, -10, 12, 100, 255, 256, 261, -256, 1 << 16, 1 << 32, 1<<32 + 5, -1 << 32, -1<<32 + 3, 1 << 62,
		math.MaxInt64, math.MaxInt64 - 1, math.MinInt64, math.MinInt64 + 1, math.MinInt64 + 6}
}

// tooLong has sizes of bodies that are too long, some of them right if they were cut to a byte.
var tooLong = [6]int{31, 32, 255, 256, 286, 1 << 16}

// wrongMsg is a message with the code that the document asks of it alone.
type wrongMsg struct {
	m    impl.Msg
	code int64
}

func wrongMsgs() []wrongMsg {
	var list []wrongMsg
	for _, kind := range wrongMsgKinds() {
		// Of both faults of one message its kind is told.
		list = append(list, wrongMsg{msg(kind), impl.ErrRange}, wrongMsg{msg(kind, countUp(30)...), impl.ErrRange},
			wrongMsg{msg(kind, countUp(31)...), impl.ErrRange})
	}
	for _, size := range tooLong {
		for kind := range int64(7) {
			list = append(list, wrongMsg{msg(kind+1, make([]byte, size)...), impl.ErrMany})
		}
	}
	return list
}

// wrongQueue is a queue with the code that the document asks of it.
type wrongQueue struct {
	q    impl.Queue
	code int64
}

// withOneWrong has a wrong message at every place of queues of several lengths, the right ones around it.
func withOneWrong() []wrongQueue {
	var list []wrongQueue
	for _, wrong := range wrongMsgs() {
		for _, size := range []int{1, 2, 7, 10} {
			for place := range size {
				items := mixedMsgs(size)
				items[place] = wrong.m
				list = append(list, wrongQueue{queue(place%2 == 1, items...), wrong.code})
			}
		}
	}
	return list
}

// withTooManyMsgs has queues that are too long, of right messages and of wrong ones: how many there are is asked first.
func withTooManyMsgs() []wrongQueue {
	var list []wrongQueue
	for _, size := range []int{11, 12, 100, 101, 256, 266, 1 << 16} {
		for _, m := range []impl.Msg{msg(4), msg(1, 9), msg(0), msg(8, 1), msg(4, make([]byte, 31)...), msg(0, make([]byte, 31)...)} {
			list = append(list, wrongQueue{queue(size%2 == 0, slices.Repeat([]impl.Msg{m}, size)...), impl.ErrMany})
		}
		for _, place := range []int{0, 5, 10, size - 1} {
			items := slices.Repeat([]impl.Msg{msg(2)}, size)
			items[place] = msg(math.MinInt64)
			list = append(list, wrongQueue{queue(true, items...), impl.ErrMany})
		}
	}
	return list
}

// withSeveralWrong has queues in which the first message that has a fault is told, whatever those behind it have.
func withSeveralWrong() []wrongQueue {
	kind, long, both, right := msg(0), msg(4, countUp(31)...), msg(8, countUp(31)...), msg(5, 1)
	return []wrongQueue{
		{queue(false, kind, long), impl.ErrRange},
		{queue(false, long, kind), impl.ErrMany},
		{queue(true, both), impl.ErrRange},
		{queue(true, both, long), impl.ErrRange},
		{queue(true, long, both), impl.ErrMany},
		{queue(false, right, long, right, kind), impl.ErrMany},
		{queue(false, right, kind, right, long), impl.ErrRange},
		{queue(false, right, right, both, long, kind), impl.ErrRange},
		{queue(false, right, right, right, right, right, right, right, right, long, kind), impl.ErrMany},
		{queue(false, right, right, right, right, right, right, right, right, kind, long), impl.ErrRange},
	}
}

func wrongQueues() []wrongQueue {
	return slices.Concat(withOneWrong(), withTooManyMsgs(), withSeveralWrong())
}

func TestQueueConstants(t *testing.T) {
	kinds := []int64{impl.MsgOk, impl.MsgError, impl.MsgReply, impl.MsgKey, impl.MsgClick, impl.MsgPaste, impl.MsgDenied}
	if !slices.Equal(kinds, []int64{1, 2, 3, 4, 5, 6, 7}) {
		t.Errorf("kinds of messages: %v", kinds)
	}
	if impl.MaxEvents != 6 || impl.MaxItems != 10 || impl.MaxBody != 30 {
		t.Errorf("MaxEvents, MaxItems, MaxBody: %d, %d, %d", impl.MaxEvents, impl.MaxItems, impl.MaxBody)
	}
}

func TestIsReply(t *testing.T) {
	for _, kind := range repliesByHand {
		if !impl.IsReply(kind) {
			t.Errorf("IsReply(%d) is not so", kind)
		}
	}
	for _, kind := range slices.Concat(eventsByHand[:], wrongMsgKinds()) {
		if impl.IsReply(kind) {
			t.Errorf("IsReply(%d) is so", kind)
		}
	}
}

func TestQueueFaultRight(t *testing.T) {
	queues := append(rightQueues(), impl.Queue{}, impl.Queue{Items: []impl.Msg{}, Over: true})
	for kind := range int64(7) {
		// Ten of a kind are right, of events as well: the room that is kept is a matter of pushing alone.
		for _, size := range []int{0, 1, 29, 30} {
			queues = append(queues, queue(false, slices.Repeat([]impl.Msg{msg(kind+1, countUp(size)...)}, 10)...))
		}
	}
	for _, q := range queues {
		if got := impl.QueueFault(q); got != impl.OK {
			t.Errorf("QueueFault(%v) = %d", q, got)
		}
	}
}

func TestQueueFaultWrong(t *testing.T) {
	for _, w := range wrongQueues() {
		if got := impl.QueueFault(w.q); got != w.code {
			t.Errorf("QueueFault of %d, %v.. = %d, not %d", len(w.q.Items), w.q.Items[:min(2, len(w.q.Items))], got, w.code)
		}
	}
}

func TestPushByHand(t *testing.T) {
	key, ok := msg(4, 65), msg(1, 9)
	six := slices.Repeat([]impl.Msg{key}, 6)
	ten := slices.Repeat([]impl.Msg{ok}, 10)
	cases := []struct {
		got  impl.QueueResult
		want impl.Queue
	}{
		{impl.PushEvent(impl.Queue{}, key), queue(false, key)},
		{impl.PushReply(impl.Queue{}, ok), queue(false, ok)},
		{impl.PushEvent(queue(true), key), queue(true, key)},
		{impl.PushReply(queue(true), ok), queue(true, ok)},
		{impl.PushEvent(queue(false, ok), key), queue(false, ok, key)},
		{impl.PushReply(queue(false, key), ok), queue(false, key, ok)},
		{impl.PushEvent(queue(false, six[:5]...), msg(7)), queue(false, key, key, key, key, key, msg(7))},
		{impl.PushEvent(queue(false, six...), msg(7)), queue(true, six...)},
		{impl.PushEvent(queue(true, six...), msg(7)), queue(true, six...)},
		{impl.PushReply(queue(false, six...), ok), queue(false, key, key, key, key, key, key, ok)},
		{impl.PushEvent(queue(false, ten[:6]...), key), queue(true, ten[:6]...)},
		{impl.PushReply(queue(false, ten[:9]...), ok), queue(false, ten...)},
		{impl.PushReply(queue(false, ten...), msg(2, 1, 8)), queue(true, ten...)},
		{impl.PushEvent(queue(false, ten...), key), queue(true, ten...)},
	}
	for place, c := range cases {
		if !isQueue(c.got, nil, c.want) {
			t.Errorf("case %d: %v, not %v", place, c.got, c.want)
		}
	}
}

// afterPush is what the document asks of a push to q, told without any bound of the program.
func afterPush(q impl.Queue, m impl.Msg, reply bool) impl.Queue {
	if len(q.Items) >= 10 || len(q.Items) >= 6 && !reply {
		return impl.Queue{Items: q.Items, Over: true}
	}
	return impl.Queue{Items: append(slices.Clone(q.Items), m), Over: q.Over}
}

// bodiesToPush has the edges of a body: none, empty, one byte of either end, and the longest one.
func bodiesToPush() [][]byte {
	return [][]byte{nil, {}, {0}, {255}, {7, 7}, countUp(29), countUp(30)}
}

func TestPushEveryLength(t *testing.T) {
	for _, q := range rightQueues() {
		for _, body := range bodiesToPush() {
			for _, kind := range eventsByHand {
				m := msg(kind, body...)
				if got, want := impl.PushEvent(q, m), afterPush(q, m, false); !isQueue(got, nil, want) {
					t.Errorf("PushEvent(%v, %v) = %v, not %v", q, m, got, want)
				}
			}
			for _, kind := range repliesByHand {
				m := msg(kind, body...)
				if got, want := impl.PushReply(q, m), afterPush(q, m, true); !isQueue(got, nil, want) {
					t.Errorf("PushReply(%v, %v) = %v, not %v", q, m, got, want)
				}
			}
		}
	}
}

// From 6 to 9 messages, whatever they are, a reply is the last one and an event is lost; nothing else hangs on what waits.
func TestRoomIsKeptForReplies(t *testing.T) {
	for size := 6; size <= 9; size++ {
		for kind := range int64(7) {
			for _, over := range []bool{false, true} {
				q := queue(over, slices.Repeat([]impl.Msg{msg(kind+1, 3)}, size)...)
				event, reply := impl.PushEvent(q, msg(5, 1)), impl.PushReply(q, msg(3, 2))
				if !isQueue(event, nil, queue(true, q.Items...)) {
					t.Errorf("%d of kind %d: PushEvent = %v", size, kind+1, event)
				}
				if !isQueue(reply, nil, queue(over, append(slices.Clone(q.Items), msg(3, 2))...)) {
					t.Errorf("%d of kind %d: PushReply = %v", size, kind+1, reply)
				}
			}
		}
	}
}

// Twelve events and then six replies: the first six events and the first four replies wait.
func TestPushUntilAllIsFull(t *testing.T) {
	var q impl.Queue
	var waits []impl.Msg
	for count := range 12 {
		m := msg(4, byte(count))
		if count < 6 {
			waits = append(waits, m)
		}
		got := impl.PushEvent(q, m)
		if !isQueue(got, nil, queue(count >= 6, waits...)) {
			t.Fatalf("event %d: %v, not %v", count, got, waits)
		}
		q = got.Queue
	}
	for count := range 6 {
		m := msg(1, byte(100+count))
		if count < 4 {
			waits = append(waits, m)
		}
		got := impl.PushReply(q, m)
		if !isQueue(got, nil, queue(true, waits...)) {
			t.Fatalf("reply %d: %v, not %v", count, got, waits)
		}
		q = got.Queue
	}
}

// A loss shows by itself: ten replies have room, and Over is so only behind the eleventh.
func TestRepliesAloneUntilFull(t *testing.T) {
	var q impl.Queue
	var waits []impl.Msg
	for count := range 13 {
		m := msg(2, byte(count), 8)
		if count < 10 {
			waits = append(waits, m)
		}
		got := impl.PushReply(q, m)
		if !isQueue(got, nil, queue(count >= 10, waits...)) {
			t.Fatalf("reply %d: %v, not %v", count, got, waits)
		}
		q = got.Queue
	}
}

func TestDrainByHand(t *testing.T) {
	key, ok, click := msg(4, 65), msg(1, 9), msg(5, 65, 1, 2)
	cases := []struct {
		q     impl.Queue
		n     int64
		items []impl.Msg
		left  impl.Queue
	}{
		{impl.Queue{}, 0, nil, impl.Queue{}},
		{impl.Queue{}, 10, nil, impl.Queue{}},
		{queue(true), 3, nil, queue(true)},
		{queue(false, key, ok, click), 0, nil, queue(false, key, ok, click)},
		{queue(false, key, ok, click), 1, []impl.Msg{key}, queue(false, ok, click)},
		{queue(false, key, ok, click), 2, []impl.Msg{key, ok}, queue(false, click)},
		{queue(true, key, ok, click), 2, []impl.Msg{key, ok}, queue(true, click)},
		{queue(false, key, ok, click), 3, []impl.Msg{key, ok, click}, queue(false)},
		{queue(true, key, ok, click), 4, []impl.Msg{key, ok, click}, queue(true)},
		{queue(true, key, ok, click), 10, []impl.Msg{key, ok, click}, queue(true)},
	}
	for _, c := range cases {
		if got := impl.DrainQueue(c.q, c.n); !isQueue(got, c.items, c.left) {
			t.Errorf("DrainQueue(%v, %d) = %v, not %v, %v", c.q, c.n, got, c.items, c.left)
		}
	}
}

// Every n at every length, at once and in two parts: the same messages, and the same queue.
func TestDrainEveryLength(t *testing.T) {
	for _, q := range rightQueues() {
		for n := range int64(11) {
			count := min(int(n), len(q.Items))
			items, left := q.Items[:count], queue(q.Over, q.Items[count:]...)
			if got := impl.DrainQueue(q, n); !isQueue(got, items, left) {
				t.Errorf("DrainQueue(%v, %d) = %v, not %v, %v", q, n, got, items, left)
			}
			for part := range n + 1 {
				first := impl.DrainQueue(q, part)
				second := impl.DrainQueue(first.Queue, n-part)
				both := impl.QueueResult{Items: slices.Concat(first.Items, second.Items), Queue: second.Queue}
				if first.Code != impl.OK || second.Code != impl.OK || !isQueue(both, items, left) {
					t.Errorf("DrainQueue(%v, %d), then %d: %v, %v, not %v, %v", q, part, n-part, first, second, items, left)
				}
			}
		}
	}
}

func TestDrainOneByOne(t *testing.T) {
	for _, q := range rightQueues() {
		var heard []impl.Msg
		left := q
		for range 12 {
			got := impl.DrainQueue(left, 1)
			heard, left = append(heard, got.Items...), got.Queue
		}
		if !sameMsgLists(heard, q.Items) || !sameQueueByHand(left, queue(q.Over)) {
			t.Errorf("%v drained one by one: %v, %v", q, heard, left)
		}
	}
}

// What was drained makes room again, and what is pushed then comes behind what was left.
func TestDrainAndPushOn(t *testing.T) {
	full := queue(true, mixedMsgs(10)...)
	for n := range int64(11) {
		left := impl.DrainQueue(full, n).Queue
		waits := slices.Clone(full.Items[n:])
		for count := range byte(12) {
			event, reply := msg(6, count), msg(3, 200, count)
			if len(waits) < 6 {
				waits = append(waits, event)
			}
			left = impl.PushEvent(left, event).Queue
			if len(waits) < 10 && count%3 == 0 {
				waits = append(waits, reply)
			}
			if count%3 == 0 {
				left = impl.PushReply(left, reply).Queue
			}
			if !sameQueueByHand(left, queue(true, waits...)) {
				t.Fatalf("%d drained, then %d pushed: %v, not %v", n, count, left, waits)
			}
		}
		heard := impl.DrainQueue(left, 10)
		if !isQueue(heard, waits, queue(true)) {
			t.Fatalf("%d drained, all pushed, then all drained: %v, not %v", n, heard, waits)
		}
	}
}

// turn is one thing that is done to a queue: an event, a reply, or n messages drained.
type turn struct {
	kind int64
	n    int64
}

// checkTurns does all turns to an empty queue: what comes out and what is left at the end is what was pushed
// and not lost, in its order, and Over is so from the first loss on.
func checkTurns(t *testing.T, turns []turn) {
	t.Helper()
	var q impl.Queue
	var kept, heard []impl.Msg
	lost, waits := false, 0
	for place, now := range turns {
		m := msg(now.kind, byte(place))
		got := impl.QueueResult{Queue: q}
		switch now.kind {
		case 0:
			got = impl.DrainQueue(q, now.n)
			waits -= min(waits, int(now.n))
		case 1:
			got = impl.PushReply(q, m)
		default:
			got = impl.PushEvent(q, m)
		}
		if now.kind != 0 && (waits < 6 || waits < 10 && now.kind == 1) {
			kept, waits = append(kept, m), waits+1
		} else if now.kind != 0 {
			lost = true
		}
		heard, q = append(heard, got.Items...), got.Queue
		if got.Code != impl.OK || impl.QueueFault(q) != impl.OK || q.Over != lost || !sameMsgLists(slices.Concat(heard, q.Items), kept) || len(q.Items) != waits {
			t.Fatalf("%v, at %d: heard %v, left %v, but kept %v", turns, place, heard, q, kept)
		}
	}
}

// Every run of eight turns, and long ones that fill the queue and empty it by turns.
func TestQueueTurns(t *testing.T) {
	all := []turn{{kind: 4}, {kind: 1}, {n: 1}, {n: 3}}
	for run := range 1 << 16 {
		var turns []turn
		for place := range 8 {
			turns = append(turns, all[run>>(2*place)&3])
		}
		checkTurns(t, turns)
	}
	for step := 1; step < 40; step++ {
		var turns []turn
		for place := range 120 {
			turns = append(turns, []turn{{kind: 7}, {kind: 1}, {kind: 5}, {n: int64(step % 11)}, {kind: 1}, {kind: 4}, {kind: 1}}[place*step/7%7])
		}
		checkTurns(t, turns)
	}
}

// checkQueueCode asks that both pushes, of an event and of a reply, tell just that code.
func checkQueueCode(t *testing.T, q impl.Queue, m impl.Msg, code int64) {
	t.Helper()
	event, reply := impl.PushEvent(q, m), impl.PushReply(q, m)
	if !isNoQueue(event, code) || !isNoQueue(reply, code) {
		t.Errorf("PushEvent, PushReply of %d, %v.. = %v, %v, not code %d", len(q.Items), q.Items[:min(2, len(q.Items))], event, reply, code)
	}
}

// The queue is asked ahead of the message, and ahead of whether it is a reply.
func TestPushToWrongQueue(t *testing.T) {
	msgs := []impl.Msg{msg(4), msg(1, 9), msg(0), msg(8), msg(5, make([]byte, 31)...), msg(2, make([]byte, 31)...),
		msg(math.MaxInt64, make([]byte, 31)...), msg(math.MinInt64)}
	for _, w := range wrongQueues() {
		for _, m := range msgs {
			checkQueueCode(t, w.q, m, w.code)
		}
	}
}

// A wrong message is told as wrong ahead of whether it is a reply, and where it would be lost, too.
func TestPushWrongMsg(t *testing.T) {
	for _, w := range wrongMsgs() {
		for _, q := range rightQueues() {
			checkQueueCode(t, q, w.m, w.code)
		}
	}
}

// An event told to PushReply, and a reply told to PushEvent, have no form, where there is room for them and where there is none.
func TestPushOfTheOtherForm(t *testing.T) {
	for _, q := range rightQueues() {
		for _, body := range bodiesToPush() {
			for _, kind := range eventsByHand {
				if got := impl.PushReply(q, msg(kind, body...)); !isNoQueue(got, impl.ErrForm) {
					t.Errorf("PushReply(%v, kind %d) = %v", q, kind, got)
				}
			}
			for _, kind := range repliesByHand {
				if got := impl.PushEvent(q, msg(kind, body...)); !isNoQueue(got, impl.ErrForm) {
					t.Errorf("PushEvent(%v, kind %d) = %v", q, kind, got)
				}
			}
		}
	}
}

func TestDrainWrongCount(t *testing.T) {
	for _, q := range append(rightQueues(), impl.Queue{}) {
		for _, n := range wrongCounts() {
			if got := impl.DrainQueue(q, n); !isNoQueue(got, impl.ErrRange) {
				t.Errorf("DrainQueue(%v, %d) = %v", q, n, got)
			}
		}
	}
}

// The queue is asked ahead of how many are drained.
func TestDrainWrongQueue(t *testing.T) {
	for _, w := range wrongQueues() {
		for _, n := range []int64{0, 1, 10, 11, -1, math.MinInt64, math.MaxInt64} {
			if got := impl.DrainQueue(w.q, n); !isNoQueue(got, w.code) {
				t.Errorf("DrainQueue of %d, %v.., %d = %v, not code %d", len(w.q.Items), w.q.Items[:min(2, len(w.q.Items))], n, got, w.code)
			}
		}
	}
}

func TestPackMsgsByHand(t *testing.T) {
	longest := countUp(30)
	cases := []struct {
		list []impl.Msg
		want []byte
	}{
		{nil, nil},
		{[]impl.Msg{}, nil},
		{[]impl.Msg{msg(1)}, []byte{1, 1}},
		{[]impl.Msg{{Kind: 7, Body: []byte{}}}, []byte{1, 7}},
		{[]impl.Msg{msg(1, 9)}, []byte{2, 1, 9}},
		{[]impl.Msg{msg(5, 65, 1, 2)}, []byte{4, 5, 65, 1, 2}},
		{[]impl.Msg{msg(2, 9, 4), msg(4, 0), msg(4), msg(6, 255)}, []byte{3, 2, 9, 4, 2, 4, 0, 1, 4, 2, 6, 255}},
		{[]impl.Msg{msg(3, longest...)}, append([]byte{31, 3}, longest...)},
		{[]impl.Msg{msg(4), msg(3, longest...), msg(7)}, slices.Concat([]byte{1, 4, 31, 3}, longest, []byte{1, 7})},
	}
	for _, c := range cases {
		if got := impl.PackMsgs(c.list); got.Code != impl.OK || !bytes.Equal(got.Bytes, c.want) {
			t.Errorf("PackMsgs(%v) = %v, not %v", c.list, got, c.want)
		}
	}
}

// unpackByHand reads messages back out of their bytes.
func unpackByHand(packed []byte) []impl.Msg {
	var list []impl.Msg
	for len(packed) > 1 && len(packed) > int(packed[0]) {
		end := 1 + int(packed[0])
		list = append(list, msg(int64(packed[1]), packed[2:end]...))
		packed = packed[end:]
	}
	return list
}

// Lists of 0 to 100 messages, of empty bodies, of the longest ones and of all sizes: all are told, in order.
func TestPackMsgsEveryLength(t *testing.T) {
	for size := range 101 {
		empty := slices.Repeat([]impl.Msg{msg(int64(size%7 + 1))}, size)
		long := slices.Repeat([]impl.Msg{msg(int64(size%7+1), countUp(30)...)}, size)
		mixed := mixedMsgs(size)
		wantMixed := 2 * size
		for _, m := range mixed {
			wantMixed += len(m.Body)
		}
		lists, wants := [][]impl.Msg{empty, long, mixed}, []int{2 * size, 32 * size, wantMixed}
		for place, list := range lists {
			got := impl.PackMsgs(list)
			if got.Code != impl.OK || len(got.Bytes) != wants[place] || !sameMsgLists(unpackByHand(got.Bytes), list) {
				t.Errorf("PackMsgs of %d, list %d: code %d, %d bytes, not %d", size, place, got.Code, len(got.Bytes), wants[place])
			}
		}
	}
}

func checkNotPacked(t *testing.T, list []impl.Msg, code int64) {
	t.Helper()
	if got := impl.PackMsgs(list); got.Code != code || len(got.Bytes) != 0 {
		t.Errorf("PackMsgs of %d, %v.. = code %d, %d bytes, not code %d", len(list), list[:min(2, len(list))], got.Code, len(got.Bytes), code)
	}
}

func TestPackMsgsTooMany(t *testing.T) {
	for _, size := range []int{101, 102, 200, 256, 356, 1 << 16} {
		// How many there are is asked ahead of what they are.
		for _, m := range []impl.Msg{msg(4), msg(3, countUp(30)...), msg(0), msg(8), msg(5, countUp(31)...)} {
			checkNotPacked(t, slices.Repeat([]impl.Msg{m}, size), impl.ErrMany)
		}
		for _, place := range []int{0, 50, 100, size - 1} {
			list := slices.Repeat([]impl.Msg{msg(4)}, size)
			list[place] = msg(0)
			checkNotPacked(t, list, impl.ErrMany)
		}
	}
}

func TestPackMsgsWrong(t *testing.T) {
	for _, w := range wrongMsgs() {
		for _, size := range []int{1, 11, 100} {
			for _, place := range []int{0, size / 2, size - 1} {
				list := mixedMsgs(size)
				list[place] = w.m
				checkNotPacked(t, list, w.code)
			}
		}
	}
	for _, w := range withSeveralWrong() {
		checkNotPacked(t, w.q.Items, w.code)
	}
}

// Queues of more than ten are none, but so many messages are packed: only each one alone is asked.
func TestPackMsgsIsNoQueue(t *testing.T) {
	for _, size := range []int{11, 12, 99, 100} {
		if got := impl.PackMsgs(mixedMsgs(size)); got.Code != impl.OK || !sameMsgLists(unpackByHand(got.Bytes), mixedMsgs(size)) {
			t.Errorf("PackMsgs of %d = %v", size, got)
		}
	}
}

func TestSameQueuesEmptyLists(t *testing.T) {
	none, empty := impl.Queue{}, impl.Queue{Items: []impl.Msg{}}
	noBody, emptyBody := queue(false, impl.Msg{Kind: 4}), queue(false, impl.Msg{Kind: 4, Body: []byte{}})
	for _, pair := range [][2]impl.Queue{{none, empty}, {noBody, emptyBody}} {
		if !impl.SameQueues(pair[0], pair[1]) || !impl.SameQueues(pair[1], pair[0]) {
			t.Errorf("SameQueues(%v, %v) is not so", pair[0], pair[1])
		}
	}
	if impl.SameQueues(none, noBody) || impl.SameQueues(noBody, none) {
		t.Errorf("SameQueues: no message is the same as an empty one")
	}
}

// turnedOnce has queues that differ from q in one thing alone.
func turnedOnce(q impl.Queue) []impl.Queue {
	other := cloneQueue(q)
	other.Over = !q.Over
	list := []impl.Queue{other, queue(q.Over, append(cloneMsgs(q.Items), msg(4))...), queue(q.Over, append([]impl.Msg{msg(0)}, cloneMsgs(q.Items)...)...)}
	for place, m := range q.Items {
		kind, longer, shorter, gone := cloneQueue(q), cloneQueue(q), cloneQueue(q), cloneQueue(q)
		kind.Items[place].Kind = m.Kind%7 + 1
		longer.Items[place].Body = append(longer.Items[place].Body, 0)
		gone.Items = slices.Delete(gone.Items, place, place+1)
		list = append(list, kind, longer, gone)
		if size := len(m.Body); size > 0 {
			shorter.Items[place].Body = shorter.Items[place].Body[:size-1]
			list = append(list, shorter)
		}
		for at := range m.Body {
			turned := cloneQueue(q)
			turned.Items[place].Body[at] ^= 128
			list = append(list, turned)
		}
		if place > 0 {
			swapped := cloneQueue(q)
			swapped.Items[place-1], swapped.Items[place] = swapped.Items[place], swapped.Items[place-1]
			list = append(list, swapped)
		}
	}
	return list
}

func TestSameQueuesOneThing(t *testing.T) {
	// Wrong queues are held against each other, too: all is the same, or it is not.
	queues := append(rightQueues(), queue(false, msg(0)), queue(true, msg(math.MinInt64, 1), msg(8)), queue(false, mixedMsgs(12)...),
		queue(false, msg(4, countUp(40)...)))
	for _, q := range queues {
		if !impl.SameQueues(q, q) || !impl.SameQueues(q, cloneQueue(q)) {
			t.Errorf("SameQueues of %v and itself is not so", q)
		}
		for _, other := range turnedOnce(q) {
			if impl.SameQueues(q, other) || impl.SameQueues(other, q) {
				t.Errorf("SameQueues(%v, %v) is so", q, other)
			}
		}
	}
}

func TestSameQueuesByHand(t *testing.T) {
	key, ok := msg(4, 65), msg(1, 9)
	different := [][2]impl.Queue{
		{queue(false, key, ok), queue(false, ok, key)},
		{queue(false, msg(4, 1, 2)), queue(false, msg(4, 2, 1))},
		{queue(false, msg(4, 1), msg(4, 2)), queue(false, msg(4, 1, 4, 2))},
		{queue(false, msg(4, 1), msg(4)), queue(false, msg(4), msg(4, 1))},
		{queue(false, msg(4)), queue(false, msg(4, 0))},
		{queue(false, key), queue(true, key)},
		{queue(false, key), queue(false, key, key)},
		{queue(false), queue(true)},
		{queue(false, msg(1<<32+4)), queue(false, msg(4))},
	}
	for _, pair := range different {
		if impl.SameQueues(pair[0], pair[1]) || impl.SameQueues(pair[1], pair[0]) {
			t.Errorf("SameQueues(%v, %v) is so", pair[0], pair[1])
		}
	}
}

// queueInMemory lays all messages, and all bytes of their bodies, into the midst of one memory each.
func queueInMemory(q impl.Queue) (inside impl.Queue, messages []impl.Msg, bodies []byte) {
	bodies = []byte{7, 7}
	for _, m := range q.Items {
		bodies = append(bodies, m.Body...)
	}
	bodies = append(bodies, 7, 7, 7, 7)
	messages = []impl.Msg{msg(6, 1)}
	from := 2
	for _, m := range q.Items {
		messages = append(messages, impl.Msg{Kind: m.Kind, Body: bodies[from : from+len(m.Body)]})
		from += len(m.Body)
	}
	messages = append(messages, msg(6, 2), msg(6, 3), msg(6, 4))
	return impl.Queue{Items: messages[1 : 1+len(q.Items)], Over: q.Over}, messages, bodies
}

// What lies around a list, and behind its end, is as it was, too.
func TestQueuesChangeNoArgument(t *testing.T) {
	queues := append(rightQueues(), queue(true, mixedMsgs(11)...), queue(false, msg(4, 1), msg(0, 2)), queue(false, msg(4, countUp(31)...)))
	for _, q := range queues {
		inside, messages, bodies := queueInMemory(q)
		wasMessages, wasBodies := cloneMsgs(messages), slices.Clone(bodies)
		for kind := range int64(9) {
			body := []byte{5, 6, 7, 8}
			m := msg(kind, body[:2]...)
			impl.QueueFault(inside)
			impl.PushEvent(inside, m)
			impl.PushReply(inside, m)
			impl.DrainQueue(inside, kind+2)
			impl.DrainQueue(inside, kind)
			impl.PackMsgs(inside.Items)
			impl.SameQueues(inside, inside)
			if !sameMsgLists(messages, wasMessages) || !bytes.Equal(bodies, wasBodies) || !bytes.Equal(body, []byte{5, 6, 7, 8}) || inside.Over != q.Over {
				t.Fatalf("%v with kind %d: changed to %v, %v, %v", q, kind, messages, bodies, body)
			}
		}
	}
}

// bodiesOf has the bodies of all messages of an answer.
func bodiesOf(r *impl.QueueResult) []*[]byte {
	var lists []*[]byte
	for place := range r.Items {
		lists = append(lists, &r.Items[place].Body)
	}
	for place := range r.Queue.Items {
		lists = append(lists, &r.Queue.Items[place].Body)
	}
	return lists
}

func overwriteMsgs(list []impl.Msg) {
	all := list[:cap(list)]
	for place := range all {
		all[place] = msg(77, 77)
	}
}

// checkMsgsAlone turns one list of messages of an answer, and all memory behind it: the other one is as it was.
func checkMsgsAlone(t *testing.T, call func() impl.QueueResult) {
	t.Helper()
	drained, left, other := call(), call(), call()
	was := cloneQueueResult(other)
	overwriteMsgs(drained.Items)
	_ = append(drained.Items, msg(77), msg(77))
	overwriteMsgs(left.Queue.Items)
	_ = append(left.Queue.Items, msg(77), msg(77))
	if !sameQueueByHand(drained.Queue, was.Queue) || !sameMsgLists(left.Items, was.Items) || !sameQueueResults(other, was) {
		t.Errorf("turned with another list: %v, %v, %v, not %v", drained.Queue, left.Items, other, was)
	}
}

// checkBodiesAlone turns one body of an answer after the other: all others are as they were, here and in another answer.
func checkBodiesAlone(t *testing.T, call func() impl.QueueResult) {
	t.Helper()
	first := call()
	for place := range bodiesOf(&first) {
		turned, other := call(), call()
		was := cloneQueueResult(other)
		body := bodiesOf(&turned)[place]
		overwriteBytes(*body)
		_ = append(*body, 77, 77, 77)
		*body = *bodiesOf(&was)[place]
		if !sameQueueResults(turned, was) || !sameQueueResults(other, was) {
			t.Errorf("turned with body %d: %v, %v, not %v", place, turned, other, was)
		}
	}
}

// checkAnswerIsNew asks that a call's answer turns neither with its arguments nor with another answer, nor one list of it with another.
func checkAnswerIsNew(t *testing.T, q impl.Queue, m impl.Msg, call func(impl.Queue, impl.Msg) impl.QueueResult) {
	t.Helper()
	q, m = cloneQueue(q), cloneMsgs([]impl.Msg{m})[0]
	wasQueue, wasMsg := cloneQueue(q), cloneMsgs([]impl.Msg{m})[0]
	again := func() impl.QueueResult { return call(q, m) }
	checkMsgsAlone(t, again)
	checkBodiesAlone(t, again)
	if !sameQueueByHand(q, wasQueue) || !sameMsgByHand(m, wasMsg) {
		t.Errorf("%v, %v: turned with an answer: %v, %v", wasQueue, wasMsg, q, m)
	}
	kept := again()
	was := cloneQueueResult(kept)
	for _, waits := range q.Items {
		overwriteBytes(waits.Body)
	}
	overwriteBytes(m.Body)
	overwriteMsgs(q.Items)
	if !sameQueueResults(kept, was) {
		t.Errorf("%v, %v: the answer turned with them: %v, not %v", wasQueue, wasMsg, kept, was)
	}
}

func TestQueueAnswersAreNew(t *testing.T) {
	for _, q := range rightQueues() {
		for _, body := range bodiesToPush() {
			checkAnswerIsNew(t, q, msg(4, body...), impl.PushEvent)
			checkAnswerIsNew(t, q, msg(3, body...), impl.PushReply)
		}
		for n := range int64(11) {
			checkAnswerIsNew(t, q, impl.Msg{}, func(q impl.Queue, _ impl.Msg) impl.QueueResult { return impl.DrainQueue(q, n) })
		}
	}
}

// Two messages of a queue may share one body, which may be the pushed one's, too: in the answer they do not.
func TestQueueSharedBodiesArePartedInAnswers(t *testing.T) {
	shared := []byte{1, 2, 3}
	q := queue(false, msg(4, shared...), msg(1, shared...), msg(5, shared...))
	calls := []func() impl.QueueResult{
		func() impl.QueueResult { return impl.PushEvent(q, impl.Msg{Kind: 4, Body: shared}) },
		func() impl.QueueResult { return impl.PushReply(q, impl.Msg{Kind: 1, Body: shared}) },
		func() impl.QueueResult { return impl.DrainQueue(q, 2) },
		func() impl.QueueResult { return impl.DrainQueue(q, 0) },
		func() impl.QueueResult { return impl.DrainQueue(q, 10) },
	}
	for _, call := range calls {
		checkMsgsAlone(t, call)
		checkBodiesAlone(t, call)
	}
	if !bytes.Equal(shared, []byte{1, 2, 3}) {
		t.Errorf("the shared body turned to %v", shared)
	}
}

// A push to one queue, twice, makes two queues that know nothing of each other.
func TestPushTwiceToOneQueue(t *testing.T) {
	for size := range 6 {
		base := impl.PushReply(queue(false, mixedMsgs(size)...), msg(1)).Queue
		one, other := impl.PushReply(base, msg(2, 1)).Queue, impl.PushReply(base, msg(3, 2)).Queue
		if !sameMsgByHand(one.Items[size+1], msg(2, 1)) || !sameMsgByHand(other.Items[size+1], msg(3, 2)) {
			t.Errorf("%d and two pushes: %v, %v", size+1, one, other)
		}
	}
}

func TestPackMsgsAnswersAreNew(t *testing.T) {
	for _, size := range []int{1, 2, 10, 100} {
		list := mixedMsgs(size)
		was := cloneMsgs(list)
		one, other := impl.PackMsgs(list).Bytes, impl.PackMsgs(list).Bytes
		wasOther := slices.Clone(other)
		overwriteBytes(one)
		_ = append(one, 77, 77)
		if !sameMsgLists(list, was) || !bytes.Equal(other, wasOther) {
			t.Errorf("%d messages: turned with their bytes: %v, %v", size, list, other)
		}
		for _, m := range list {
			overwriteBytes(m.Body)
		}
		if !bytes.Equal(other, wasOther) {
			t.Errorf("%d messages: their bytes turned with them: %v", size, other)
		}
	}
}

// queueAnswers holds what the functions of the chapter answer at two queues, one message and one number.
type queueAnswers struct {
	fault                 int64
	event, reply, drained impl.QueueResult
	packed                impl.BytesResult
	same, isReply         bool
}

func queueAnswersAt(q, other impl.Queue, m impl.Msg, n int64) queueAnswers {
	return queueAnswers{fault: impl.QueueFault(q), event: impl.PushEvent(q, m), reply: impl.PushReply(q, m), drained: impl.DrainQueue(q, n),
		packed: impl.PackMsgs(q.Items), same: impl.SameQueues(q, other), isReply: impl.IsReply(m.Kind)}
}

func sameQueueAnswers(a, b queueAnswers) bool {
	return a.fault == b.fault && sameQueueResults(a.event, b.event) && sameQueueResults(a.reply, b.reply) && sameQueueResults(a.drained, b.drained) &&
		a.packed.Code == b.packed.Code && bytes.Equal(a.packed.Bytes, b.packed.Bytes) && a.same == b.same && a.isReply == b.isReply
}

// Asked again, in another order and with other calls between, every answer is the same.
func TestQueuesKeepNothing(t *testing.T) {
	queues := rightQueues()
	for _, w := range withSeveralWrong() {
		queues = append(queues, w.q)
	}
	at := func(i int) queueAnswers {
		m := msg(int64(i%9), countUp(i%32)...)
		return queueAnswersAt(queues[i%len(queues)], queues[i/3%len(queues)], m, int64(i%13-1))
	}
	const turns = 3000
	var first []queueAnswers
	for i := range turns {
		first = append(first, at(i))
	}
	for i := turns - 1; i >= 0; i-- {
		if again := at(i); !sameQueueAnswers(again, first[i]) {
			t.Errorf("at %d: first %v, then %v", i, first[i], again)
		}
	}
}
