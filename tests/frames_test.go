package tests

import (
	"bytes"
	"math"
	"slices"
	"testing"

	"loop.example/g00545/impl"
)

// frame is a whole frame with that body.
func frame(body ...byte) []byte {
	return append([]byte{byte(len(body))}, body...)
}

// cutByHand hears one byte after the other, and knows only how many are still to come.
func cutByHand(stream []byte) impl.Frames {
	var cut impl.Frames
	missing := 0
	for _, b := range stream {
		switch {
		case missing > 0:
			cut.Rest = append(cut.Rest, b)
			missing--
			if missing == 0 {
				cut.Bodies = append(cut.Bodies, cut.Rest[1:])
				cut.Rest = nil
			}
		case b >= 1 && b <= 25:
			cut.Rest = []byte{b}
			missing = int(b)
		default:
			cut.Wrong++
			cut.Bodies = append(cut.Bodies, nil)
		}
	}
	return cut
}

func sameFrames(a, b impl.Frames) bool {
	return slices.EqualFunc(a.Bodies, b.Bodies, bytes.Equal) && a.Wrong == b.Wrong && bytes.Equal(a.Rest, b.Rest)
}

func isFrames(got impl.FramesResult, want impl.Frames) bool {
	return got.Code == impl.OK && sameFrames(got.Frames, want)
}

func isNoFrames(got impl.FramesResult, code int64) bool {
	return got.Code == code && sameFrames(got.Frames, impl.Frames{})
}

func cloneFrames(f impl.Frames) impl.Frames {
	clone := impl.Frames{Wrong: f.Wrong, Rest: slices.Clone(f.Rest)}
	for _, body := range f.Bodies {
		clone.Bodies = append(clone.Bodies, slices.Clone(body))
	}
	return clone
}

func filledBodies(f impl.Frames) int64 {
	var count int64
	for _, body := range f.Bodies {
		if len(body) != 0 {
			count++
		}
	}
	return count
}

// cutByPieces hands the Rest of each piece to the next one, and puts together what they tell.
func cutByPieces(t *testing.T, pieces ...[]byte) impl.Frames {
	t.Helper()
	var all impl.Frames
	for _, piece := range pieces {
		got := impl.CutFrames(all.Rest, piece)
		if got.Code != impl.OK {
			t.Fatalf("CutFrames(%v, %v) = %v", all.Rest, piece, got)
		}
		if fault := impl.RestFault(got.Frames.Rest); fault != impl.OK {
			t.Fatalf("CutFrames(%v, %v) = %v, whose Rest has the fault %d", all.Rest, piece, got, fault)
		}
		all.Bodies = append(all.Bodies, got.Frames.Bodies...)
		all.Wrong += got.Frames.Wrong
		all.Rest = got.Frames.Rest
	}
	return all
}

// checkStream asks for the frames at once, in two pieces cut at every place, and byte by byte.
func checkStream(t *testing.T, stream []byte, want impl.Frames) {
	t.Helper()
	if got := impl.CutFrames(nil, stream); !isFrames(got, want) {
		t.Errorf("CutFrames(nil, %v) = %v, not %v", stream, got, want)
	}
	if got := impl.CountFrames(stream); got != (impl.IntResult{Value: filledBodies(want)}) {
		t.Errorf("CountFrames(%v) = %v", stream, got)
	}
	for place := range len(stream) + 1 {
		if got := cutByPieces(t, stream[:place], stream[place:]); !sameFrames(got, want) {
			t.Errorf("%v cut at %d: %v, not %v", stream, place, got, want)
		}
	}
	var single [][]byte
	for place := range stream {
		single = append(single, nil, stream[place:place+1])
	}
	if got := cutByPieces(t, single...); !sameFrames(got, want) {
		t.Errorf("%v byte by byte: %v, not %v", stream, got, want)
	}
}

// cutStream is a stream with what it is cut into, written out by hand.
type cutStream struct {
	stream []byte
	frames impl.Frames
}

func wholeStreams() []cutStream {
	long := countUp(25)
	return []cutStream{
		{nil, impl.Frames{}},
		{[]byte{}, impl.Frames{}},
		{[]byte{1, 10}, impl.Frames{Bodies: [][]byte{{10}}}},
		{[]byte{1, 0}, impl.Frames{Bodies: [][]byte{{0}}}},
		{[]byte{1, 255}, impl.Frames{Bodies: [][]byte{{255}}}},
		{[]byte{2, 3, 65}, impl.Frames{Bodies: [][]byte{{3, 65}}}},
		{[]byte{2, 0, 26}, impl.Frames{Bodies: [][]byte{{0, 26}}}},
		{[]byte{1, 1, 1, 1}, impl.Frames{Bodies: [][]byte{{1}, {1}}}},
		{[]byte{2, 2, 2, 2, 2, 2}, impl.Frames{Bodies: [][]byte{{2, 2}, {2, 2}}}},
		{[]byte{2, 3, 65, 1, 10, 4, 6, 129, 7, 9}, impl.Frames{Bodies: [][]byte{{3, 65}, {10}, {6, 129, 7, 9}}}},
		{frame(long...), impl.Frames{Bodies: [][]byte{long}}},
		{slices.Concat(frame(long...), []byte{1, 10}, frame(long...)), impl.Frames{Bodies: [][]byte{long, {10}, long}}},
	}
}

func brokenStreams() []cutStream {
	long := countUp(25)
	return []cutStream{
		{[]byte{1}, impl.Frames{Rest: []byte{1}}},
		{[]byte{2}, impl.Frames{Rest: []byte{2}}},
		{[]byte{25}, impl.Frames{Rest: []byte{25}}},
		{[]byte{2, 3}, impl.Frames{Rest: []byte{2, 3}}},
		{[]byte{2, 0}, impl.Frames{Rest: []byte{2, 0}}},
		{[]byte{3, 0, 26}, impl.Frames{Rest: []byte{3, 0, 26}}},
		{frame(long...)[:25], impl.Frames{Rest: frame(long...)[:25]}},
		{[]byte{2, 3, 65, 1}, impl.Frames{Bodies: [][]byte{{3, 65}}, Rest: []byte{1}}},
		{[]byte{2, 3, 65, 2, 3}, impl.Frames{Bodies: [][]byte{{3, 65}}, Rest: []byte{2, 3}}},
		{slices.Concat([]byte{1, 10}, frame(long...)[:25]), impl.Frames{Bodies: [][]byte{{10}}, Rest: frame(long...)[:25]}},
		{slices.Concat(frame(long...), frame(long...)[:25]), impl.Frames{Bodies: [][]byte{long}, Rest: frame(long...)[:25]}},
	}
}

// wrongStreams has wrong lengths at the beginning, in the midst, at the end, and several behind one another.
func wrongStreams() []cutStream {
	all := []cutStream{
		{[]byte{2, 3, 65, 0, 1, 10, 26, 3, 1}, impl.Frames{Bodies: [][]byte{{3, 65}, nil, {10}, nil}, Wrong: 2, Rest: []byte{3, 1}}},
		{[]byte{0, 26, 255, 1, 10}, impl.Frames{Bodies: [][]byte{nil, nil, nil, {10}}, Wrong: 3}},
		{[]byte{1, 10, 255, 0, 26}, impl.Frames{Bodies: [][]byte{{10}, nil, nil, nil}, Wrong: 3}},
		{[]byte{1, 10, 26, 0, 255, 255, 1, 11, 2}, impl.Frames{Bodies: [][]byte{{10}, nil, nil, nil, nil, {11}}, Wrong: 4, Rest: []byte{2}}},
		{[]byte{26, 1, 10, 255, 2, 3, 65, 0}, impl.Frames{Bodies: [][]byte{nil, {10}, nil, {3, 65}, nil}, Wrong: 3}},
	}
	for _, wrong := range []byte{0, 26, 27, 32, 100, 127, 128, 254, 255} {
		all = append(all,
			cutStream{[]byte{wrong}, impl.Frames{Bodies: [][]byte{nil}, Wrong: 1}},
			cutStream{[]byte{wrong, wrong, wrong}, impl.Frames{Bodies: [][]byte{nil, nil, nil}, Wrong: 3}},
			cutStream{[]byte{wrong, 2, 3, 65}, impl.Frames{Bodies: [][]byte{nil, {3, 65}}, Wrong: 1}},
			cutStream{[]byte{2, 3, 65, wrong, 1, 10}, impl.Frames{Bodies: [][]byte{{3, 65}, nil, {10}}, Wrong: 1}},
			cutStream{[]byte{2, 3, 65, wrong}, impl.Frames{Bodies: [][]byte{{3, 65}, nil}, Wrong: 1}},
			cutStream{[]byte{2, 3, 65, wrong, wrong, 1, 10}, impl.Frames{Bodies: [][]byte{{3, 65}, nil, nil, {10}}, Wrong: 2}},
			cutStream{[]byte{wrong, 3, 65}, impl.Frames{Bodies: [][]byte{nil}, Wrong: 1, Rest: []byte{3, 65}}},
			// Within a body it is no length.
			cutStream{[]byte{3, wrong, wrong, wrong, 1, 10}, impl.Frames{Bodies: [][]byte{{wrong, wrong, wrong}, {10}}}},
			cutStream{[]byte{1, wrong, wrong, 1, wrong}, impl.Frames{Bodies: [][]byte{{wrong}, nil, {wrong}}, Wrong: 1}},
			cutStream{[]byte{4, wrong, wrong, wrong}, impl.Frames{Rest: []byte{4, wrong, wrong, wrong}}})
	}
	return all
}

func streamsByHand() []cutStream {
	return slices.Concat(wholeStreams(), brokenStreams(), wrongStreams())
}

func TestFrameConstants(t *testing.T) {
	if impl.MaxFrame != 25 {
		t.Errorf("MaxFrame: %d", impl.MaxFrame)
	}
}

func TestCutFramesByHand(t *testing.T) {
	for _, c := range streamsByHand() {
		checkStream(t, c.stream, c.frames)
	}
}

func TestCutFramesWithRestByHand(t *testing.T) {
	long := frame(countUp(25)...)
	cases := []struct {
		rest, data []byte
		want       impl.Frames
	}{
		{[]byte{2, 3}, []byte{65, 0, 1, 10, 26, 3, 1}, impl.Frames{Bodies: [][]byte{{3, 65}, nil, {10}, nil}, Wrong: 2, Rest: []byte{3, 1}}},
		{[]byte{1}, nil, impl.Frames{Rest: []byte{1}}},
		{[]byte{1}, []byte{}, impl.Frames{Rest: []byte{1}}},
		{[]byte{1}, []byte{10}, impl.Frames{Bodies: [][]byte{{10}}}},
		{[]byte{1}, []byte{0}, impl.Frames{Bodies: [][]byte{{0}}}},
		{[]byte{1}, []byte{26, 26}, impl.Frames{Bodies: [][]byte{{26}, nil}, Wrong: 1}},
		{[]byte{3}, []byte{1, 10}, impl.Frames{Rest: []byte{3, 1, 10}}},
		{[]byte{3, 1}, []byte{10}, impl.Frames{Rest: []byte{3, 1, 10}}},
		{long[:25], nil, impl.Frames{Rest: long[:25]}},
		{long[:25], long[25:], impl.Frames{Bodies: [][]byte{long[1:]}}},
		{long[:25], []byte{25, 25}, impl.Frames{Bodies: [][]byte{append(countUp(24), 25)}, Rest: []byte{25}}},
	}
	for _, c := range cases {
		if got := impl.CutFrames(c.rest, c.data); !isFrames(got, c.want) {
			t.Errorf("CutFrames(%v, %v) = %v, not %v", c.rest, c.data, got, c.want)
		}
	}
}

// Every first byte, with every count of bytes behind it from none on to more than it asks for.
func TestCutFramesEveryLength(t *testing.T) {
	for length := range 256 {
		for size := range 30 {
			for _, fill := range []byte{0, 1, 2, 25, 26, 255} {
				stream := append([]byte{byte(length)}, bytes.Repeat([]byte{fill}, size)...)
				if want, got := cutByHand(stream), impl.CutFrames(nil, stream); !isFrames(got, want) {
					t.Errorf("CutFrames(nil, %v) = %v, not %v", stream, got, want)
				}
			}
		}
	}
}

// Every stream of up to six bytes out of right lengths, wrong lengths and both as what is in a body.
func TestCutFramesEverywhere(t *testing.T) {
	layer := [][]byte{nil}
	for range 6 {
		var longer [][]byte
		for _, stream := range layer {
			for _, b := range []byte{0, 1, 2, 3, 26} {
				longer = append(longer, append(slices.Clone(stream), b))
			}
		}
		layer = longer
		for _, stream := range layer {
			checkStream(t, stream, cutByHand(stream))
		}
	}
}

// mixedStream has frames of every length, the wrong ones among them, in an order that comes of seed.
func mixedStream(seed, size int) []byte {
	var stream []byte
	for turn := seed; len(stream) < size; turn++ {
		length := turn * (7 + 2*seed) % 29
		stream = append(stream, byte(length))
		if length >= 1 && length <= 25 {
			stream = append(stream, countUp(length)...)
		}
	}
	return stream[:size]
}

func TestCutFramesLongStreams(t *testing.T) {
	for seed := range 12 {
		for _, size := range []int{100, 299, 300} {
			stream := mixedStream(seed, size)
			checkStream(t, stream, cutByHand(stream))
		}
	}
}

// The longest rest with the most data: no piece is lost where both are as long as they may be.
func TestCutFramesMostBytes(t *testing.T) {
	rest := frame(countUp(25)...)[:25]
	for seed := range 12 {
		data := mixedStream(seed, 300)
		if want, got := cutByHand(slices.Concat(rest, data)), impl.CutFrames(rest, data); !isFrames(got, want) {
			t.Errorf("CutFrames(%v, %v) = %v, not %v", rest, data, got, want)
		}
	}
	for _, fill := range []byte{0, 1, 2, 25, 26, 255} {
		data := bytes.Repeat([]byte{fill}, 300)
		checkStream(t, data, cutByHand(data))
	}
}

func TestCutFramesInThreePieces(t *testing.T) {
	stream := slices.Concat([]byte{2, 3, 65, 0, 26}, frame(countUp(25)...), []byte{255, 1, 10, 4, 0, 26})
	want := cutByHand(stream)
	for first := range len(stream) + 1 {
		for second := first; second <= len(stream); second++ {
			if got := cutByPieces(t, stream[:first], stream[first:second], stream[second:]); !sameFrames(got, want) {
				t.Errorf("%v cut at %d and %d: %v, not %v", stream, first, second, got, want)
			}
		}
	}
}

// wrongRest is a rest with the code that the document asks of it.
type wrongRest struct {
	rest []byte
	code int64
}

func wrongRests() []wrongRest {
	var all []wrongRest
	for _, size := range []int{26, 27, 100, 256, 257, 1000} {
		// How many there are is asked ahead of what the first one is.
		for _, first := range []byte{0, 1, 2, 25, 26, 255} {
			rest := make([]byte, size)
			rest[0] = first
			all = append(all, wrongRest{rest, impl.ErrMany})
		}
	}
	for _, first := range []byte{0, 26, 27, 128, 254, 255} {
		for _, size := range []int{0, 1, 2, 23, 24} {
			all = append(all, wrongRest{append([]byte{first}, countUp(size)...), impl.ErrForm})
		}
	}
	for size := 1; size <= 24; size++ {
		whole := frame(countUp(size)...)
		all = append(all, wrongRest{whole, impl.ErrForm})
		for len(whole) < 25 {
			whole = append(slices.Clone(whole), 25)
			all = append(all, wrongRest{whole, impl.ErrForm})
		}
	}
	return append(all, wrongRest{[]byte{1, 1}, impl.ErrForm}, wrongRest{[]byte{1, 10, 2}, impl.ErrForm},
		wrongRest{frame(countUp(25)...), impl.ErrMany})
}

func TestRestFault(t *testing.T) {
	for _, nothing := range [][]byte{nil, {}} {
		if got := impl.RestFault(nothing); got != impl.OK {
			t.Errorf("RestFault(%v) = %d", nothing, got)
		}
	}
	for length := 1; length <= 25; length++ {
		for size := range length {
			for _, fill := range []byte{0, 1, 25, 26, 255} {
				rest := append([]byte{byte(length)}, bytes.Repeat([]byte{fill}, size)...)
				if got := impl.RestFault(rest); got != impl.OK {
					t.Errorf("RestFault(%v) = %d", rest, got)
				}
			}
		}
	}
	for _, w := range wrongRests() {
		if got := impl.RestFault(w.rest); got != w.code {
			t.Errorf("RestFault(%v) = %d, not %d", w.rest, got, w.code)
		}
	}
}

func TestCutFramesWrongRest(t *testing.T) {
	for _, w := range wrongRests() {
		// The rest is asked ahead of how many bytes data has.
		for _, data := range [][]byte{nil, {1, 10}, {0}, make([]byte, 300), make([]byte, 301), make([]byte, 1000)} {
			if got := impl.CutFrames(w.rest, data); !isNoFrames(got, w.code) {
				t.Errorf("CutFrames(%v, %d bytes) = %v, not code %d", w.rest, len(data), got, w.code)
			}
		}
	}
}

func TestCutFramesTooMuchData(t *testing.T) {
	for _, size := range []int{301, 302, 325, 326, 512, 556, 1 << 16} {
		for _, fill := range []byte{0, 1, 25, 26} {
			data := bytes.Repeat([]byte{fill}, size)
			for _, rest := range [][]byte{nil, {1}, {2, 3}, frame(countUp(25)...)[:25]} {
				if got := impl.CutFrames(rest, data); !isNoFrames(got, impl.ErrMany) {
					t.Errorf("CutFrames(%v, %d bytes of %d) = %v", rest, size, fill, got)
				}
			}
			if got := impl.CountFrames(data); got != (impl.IntResult{Code: impl.ErrMany}) {
				t.Errorf("CountFrames(%d bytes of %d) = %v", size, fill, got)
			}
		}
	}
}

func TestCountFramesByHand(t *testing.T) {
	cases := []struct {
		data []byte
		want int64
	}{
		{nil, 0}, {[]byte{}, 0}, {[]byte{1}, 0}, {[]byte{0}, 0}, {[]byte{26, 255, 0}, 0}, {[]byte{2, 3}, 0},
		{[]byte{1, 0}, 1}, {[]byte{0, 1, 10}, 1}, {[]byte{1, 10, 0}, 1}, {[]byte{1, 10, 2, 3}, 1},
		{[]byte{2, 3, 65, 1, 10}, 2}, {[]byte{2, 0, 0, 0, 1, 26}, 2},
		{frame(countUp(25)...), 1}, {bytes.Repeat([]byte{1}, 300), 150}, {bytes.Repeat([]byte{1}, 299), 149},
		{make([]byte, 300), 0}, {bytes.Repeat([]byte{25}, 300), 11},
	}
	for _, c := range cases {
		if got := impl.CountFrames(c.data); got != (impl.IntResult{Value: c.want}) {
			t.Errorf("CountFrames(%v) = %v, not %d", c.data, got, c.want)
		}
	}
}

func TestJoinFramesByHand(t *testing.T) {
	var all []impl.Request
	var want []byte
	for _, right := range rightByHand() {
		if got := impl.JoinFrames([]impl.Request{right.request}); got.Code != impl.OK || !bytes.Equal(got.Bytes, right.packed) {
			t.Errorf("JoinFrames(%v) = %v, not %v", right.request, got, right.packed)
		}
		if len(all) == 10 {
			all, want = nil, nil
		}
		all, want = append(all, right.request), append(want, right.packed...)
		if got := impl.JoinFrames(all); got.Code != impl.OK || !bytes.Equal(got.Bytes, want) {
			t.Errorf("JoinFrames(%v) = %v, not %v", all, got, want)
		}
	}
	for _, nothing := range [][]impl.Request{nil, {}} {
		if got := impl.JoinFrames(nothing); got.Code != impl.OK || len(got.Bytes) != 0 {
			t.Errorf("JoinFrames(%v) = %v", nothing, got)
		}
	}
}

// checkJoined asks that what is joined is cut again, at once and in two pieces, into just these requests.
func checkJoined(t *testing.T, list []impl.Request) {
	t.Helper()
	joined := impl.JoinFrames(list)
	if joined.Code != impl.OK {
		t.Fatalf("JoinFrames(%v) = %v", list, joined)
	}
	if got := impl.CountFrames(joined.Bytes); got != (impl.IntResult{Value: int64(len(list))}) {
		t.Errorf("CountFrames(%v) = %v, not %d", joined.Bytes, got, len(list))
	}
	for place := range len(joined.Bytes) + 1 {
		got := cutByPieces(t, joined.Bytes[:place], joined.Bytes[place:])
		if got.Wrong != 0 || len(got.Rest) != 0 || len(got.Bodies) != len(list) {
			t.Fatalf("%v joined and cut at %d: %v", list, place, got)
		}
		for i, body := range got.Bodies {
			if read := impl.ReadBody(body); !isRequest(read, list[i]) {
				t.Errorf("%v joined and cut at %d: %v in the place of %v", list, place, read, list[i])
			}
		}
	}
}

func TestJoinedIsCutAgain(t *testing.T) {
	all := rightRequests()
	for i, r := range all {
		checkJoined(t, []impl.Request{r})
		var list []impl.Request
		for far := range 1 + i%10 {
			list = append(list, all[(i+far*37)%len(all)])
		}
		checkJoined(t, list)
	}
	checkJoined(t, nil)
	checkJoined(t, slices.Repeat([]impl.Request{clip(countUp(24)...)}, 10))
	checkJoined(t, slices.Repeat([]impl.Request{ask(impl.AskList)}, 10))
}

func TestJoinFramesWrongRequest(t *testing.T) {
	for _, w := range wrongRequests() {
		for _, place := range []int{0, 1, 5, 9} {
			list := slices.Repeat([]impl.Request{ask(impl.AskMap, 65)}, 10)
			list[place] = w.request
			for _, size := range []int{place + 1, 10} {
				if got := impl.JoinFrames(list[:size]); got.Code != w.code || len(got.Bytes) != 0 {
					t.Errorf("JoinFrames of %d with %v at %d = %v, not code %d", size, w.request, place, got, w.code)
				}
			}
		}
	}
}

// The list is gone through from the first one on: its fault is told, whatever those behind it have.
func TestJoinFramesFirstFault(t *testing.T) {
	range1, many := ask(14, 1, 2), ask(impl.AskMap, 1, 2)
	range2 := ask(impl.AskMap, math.MinInt64)
	right := ask(impl.AskList)
	cases := []struct {
		list []impl.Request
		code int64
	}{
		{[]impl.Request{range1, many}, impl.ErrRange},
		{[]impl.Request{many, range1}, impl.ErrMany},
		{[]impl.Request{range2, many}, impl.ErrRange},
		{[]impl.Request{many, range2}, impl.ErrMany},
		{[]impl.Request{right, many, right, range1}, impl.ErrMany},
		{[]impl.Request{right, range2, right, many}, impl.ErrRange},
	}
	for _, c := range cases {
		if got := impl.JoinFrames(c.list); got.Code != c.code || len(got.Bytes) != 0 {
			t.Errorf("JoinFrames(%v) = %v, not code %d", c.list, got, c.code)
		}
	}
}

func TestJoinFramesTooMany(t *testing.T) {
	for _, size := range []int{11, 12, 100, 256, 266, 1 << 16} {
		list := slices.Repeat([]impl.Request{ask(impl.AskList)}, size)
		if got := impl.JoinFrames(list); got.Code != impl.ErrMany || len(got.Bytes) != 0 {
			t.Errorf("JoinFrames of %d = %v", size, got)
		}
		// How many there are is asked ahead of what they are.
		for _, place := range []int{0, 5, size - 1} {
			list[place] = ask(14)
			if got := impl.JoinFrames(list); got.Code != impl.ErrMany || len(got.Bytes) != 0 {
				t.Errorf("JoinFrames of %d with a fault at %d = %v", size, place, got)
			}
			list[place] = ask(impl.AskList)
		}
	}
}

// Rest and data lie behind one another in one memory, with room behind both: nothing of it turns.
func TestFramesChangeNoArgument(t *testing.T) {
	for _, c := range streamsByHand() {
		memory := append(slices.Clone(c.stream), 7, 7, 7, 7, 7, 7, 7, 7)
		was := slices.Clone(memory)
		for place := range len(c.stream) + 1 {
			rest, data := memory[:place], memory[place:len(c.stream)]
			impl.CutFrames(rest, data)
			impl.CutFrames(data, rest)
			impl.RestFault(rest)
			impl.CountFrames(data)
			if !bytes.Equal(memory, was) {
				t.Fatalf("%v cut at %d: changed to %v", was, place, memory)
			}
		}
	}
	// What is put behind the rest in its own memory would be seen there.
	memory := []byte{2, 3, 7, 7, 7, 7, 7, 7}
	impl.CutFrames(memory[:2], []byte{65, 1, 10, 2, 3})
	if !bytes.Equal(memory, []byte{2, 3, 7, 7, 7, 7, 7, 7}) {
		t.Errorf("what lies behind the rest is changed to %v", memory)
	}
}

func TestJoinFramesChangesNoArgument(t *testing.T) {
	args, data := []int64{65, 66, 67, 68, 69, 70, 71, 72}, countUp(40)
	wasArgs, wasData := slices.Clone(args), slices.Clone(data)
	list := []impl.Request{ask(impl.AskMap, args[:1]...), {Kind: impl.AskClip, Data: data[:24]}, ask(impl.AskMove, args[1:4]...),
		{Kind: impl.AskClip, Data: data[2:3]}, ask(14), ask(impl.AskList)}
	var was []impl.Request
	for _, r := range list {
		was = append(was, cloneRequest(r))
	}
	for size := range len(list) + 1 {
		impl.JoinFrames(list[:size])
		if !slices.Equal(args, wasArgs) || !bytes.Equal(data, wasData) || !slices.EqualFunc(list, was, sameByHand) {
			t.Fatalf("the first %d: changed to %v, %v, %v", size, list, args, data)
		}
	}
}

func overwriteBytes(list []byte) {
	all := list[:cap(list)]
	for place := range all {
		all[place] = 77
	}
}

// listsOf has all lists of bytes of an answer: each body, and the Rest.
func listsOf(f *impl.Frames) []*[]byte {
	lists := []*[]byte{&f.Rest}
	for place := range f.Bodies {
		lists = append(lists, &f.Bodies[place])
	}
	return lists
}

// checkAlone turns one list of the answer, all of its memory and behind its end, and asks that all others are as they were.
func checkAlone(t *testing.T, rest, data []byte, place int) {
	t.Helper()
	wasRest, wasData := slices.Clone(rest), slices.Clone(data)
	other, turned := impl.CutFrames(rest, data).Frames, impl.CutFrames(rest, data).Frames
	was := cloneFrames(turned)
	list := listsOf(&turned)[place]
	overwriteBytes(*list)
	*list = append(*list, 77, 77, 77)
	*list = *listsOf(&was)[place]
	if !sameFrames(turned, was) || !sameFrames(other, was) || !bytes.Equal(rest, wasRest) || !bytes.Equal(data, wasData) {
		t.Errorf("CutFrames(%v, %v): turned with list %d: %v, %v", wasRest, wasData, place, turned, other)
	}
}

func TestCutFramesAnswersAreNew(t *testing.T) {
	for _, c := range streamsByHand() {
		for place := range len(c.stream) + 1 {
			rest, data := slices.Clone(c.stream[:place]), slices.Clone(c.stream[place:])
			if impl.RestFault(rest) != impl.OK {
				rest, data = nil, slices.Clone(c.stream)
			}
			got := impl.CutFrames(rest, data).Frames
			for list := range listsOf(&got) {
				checkAlone(t, rest, data, list)
			}
			again := impl.CutFrames(rest, data).Frames
			overwriteBytes(rest)
			overwriteBytes(data)
			clear(got.Bodies[:cap(got.Bodies)])
			if !sameFrames(again, c.frames) {
				t.Errorf("%v cut at %d: turned with its arguments, or with another answer: %v", c.stream, place, again)
			}
		}
	}
}

func TestJoinFramesAnswersAreNew(t *testing.T) {
	for _, right := range rightByHand() {
		r := cloneRequest(right.request)
		list := []impl.Request{r}
		one, other := impl.JoinFrames(list).Bytes, impl.JoinFrames(list).Bytes
		overwriteBytes(one)
		if !sameByHand(list[0], right.request) || !bytes.Equal(other, right.packed) {
			t.Errorf("%v: turned with its bytes: %v, %v", right.request, list, other)
		}
		overwrite(r)
		if !bytes.Equal(other, right.packed) {
			t.Errorf("%v: its bytes turned with it: %v", right.request, other)
		}
	}
}

// frameAnswers holds what the functions of the chapter answer at one rest, one piece of data and one list.
type frameAnswers struct {
	cut    impl.FramesResult
	fault  int64
	joined impl.BytesResult
	count  impl.IntResult
}

func frameAnswersAt(rest, data []byte, list []impl.Request) frameAnswers {
	return frameAnswers{cut: impl.CutFrames(rest, data), fault: impl.RestFault(rest), joined: impl.JoinFrames(list), count: impl.CountFrames(data)}
}

func sameFrameAnswers(a, b frameAnswers) bool {
	return a.cut.Code == b.cut.Code && sameFrames(a.cut.Frames, b.cut.Frames) && a.fault == b.fault &&
		a.joined.Code == b.joined.Code && bytes.Equal(a.joined.Bytes, b.joined.Bytes) && a.count == b.count
}

// Asked again, in another order and with other calls between, every answer is the same.
func TestFramesKeepNothing(t *testing.T) {
	streams := streamsByHand()
	streams = append(streams, cutStream{stream: make([]byte, 301)}, cutStream{stream: bytes.Repeat([]byte{1}, 300)})
	requests := rightRequests()
	rests := [][]byte{nil, {1}, {2, 3}, {0}, {1, 1}, frame(countUp(25)...)[:25], make([]byte, 26)}
	at := func(i int) frameAnswers {
		from := i % (len(requests) - 12)
		return frameAnswersAt(rests[i%len(rests)], streams[i%len(streams)].stream, requests[from:from+i%12])
	}
	const turns = 500
	var first []frameAnswers
	for i := range turns {
		first = append(first, at(i))
	}
	for i := turns - 1; i >= 0; i-- {
		if again := at(i); !sameFrameAnswers(again, first[i]) {
			t.Errorf("at %d: first %v, then %v", i, first[i], again)
		}
	}
}
