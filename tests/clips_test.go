package tests

import (
	"bytes"
	"math"
	"slices"
	"testing"

	"loop.example/g00545/impl"
)

func clipFrom(from int64, data ...byte) impl.Clip {
	return impl.Clip{From: from, Data: data}
}

// dataOf is told by the code alone: of each one it is another, and there are some with none and some with as many as may be.
func dataOf(code int64) []byte {
	if code%25 == 0 {
		return nil
	}
	data := []byte{byte(code)}
	for len(data) < int(code%25) {
		data = append(data, byte(7*len(data)+int(code)))
	}
	return data
}

func clipsOf(codes ...int64) []impl.Clip {
	var clips []impl.Clip
	for _, code := range codes {
		clips = append(clips, clipFrom(code, dataOf(code)...))
	}
	return clips
}

func allCodes() []int64 {
	var codes []int64
	for code := range int64(64) {
		codes = append(codes, code)
	}
	return codes
}

// codesBut has all codes but those that are left out.
func codesBut(out ...int64) []int64 {
	return slices.DeleteFunc(allCodes(), func(code int64) bool { return slices.Contains(out, code) })
}

func fullClips() []impl.Clip {
	return clipsOf(allCodes()...)
}

// rightClips has no clips, one, few, those of one level, those of one sum of parts, every second one, and all but one, two or none.
func rightClips() [][]impl.Clip {
	lists := [][]impl.Clip{nil, {}, clipsOf(0), clipsOf(63), clipsOf(16), clipsOf(25), clipsOf(0, 63), clipsOf(17, 18), clipsOf(1, 2, 4, 8),
		clipsOf(16, 17, 18, 19, 20, 21, 22, 23, 24, 25, 26, 27, 28, 29, 30, 31), clipsOf(5, 21, 37, 53), clipsOf(0, 25, 50), clipsOf(24, 49),
		clipsOf(codesBut(0)...), clipsOf(codesBut(63)...), clipsOf(codesBut(31)...), clipsOf(codesBut(30, 33)...), fullClips()}
	var even, odd []int64
	for code := range int64(32) {
		even, odd = append(even, 2*code), append(odd, 2*code+1)
	}
	return append(lists, clipsOf(even...), clipsOf(odd...))
}

func cloneClips(clips []impl.Clip) []impl.Clip {
	var clone []impl.Clip
	for _, c := range clips {
		clone = append(clone, clipFrom(c.From, slices.Clone(c.Data)...))
	}
	return clone
}

func sameClipsByHand(a, b []impl.Clip) bool {
	return slices.EqualFunc(a, b, func(a, b impl.Clip) bool { return a.From == b.From && bytes.Equal(a.Data, b.Data) })
}

func isClips(got impl.ClipsResult, want []impl.Clip) bool {
	return got.Code == impl.OK && sameClipsByHand(got.Clips, want)
}

func isNoClips(got impl.ClipsResult, code int64) bool {
	return got.Code == code && len(got.Clips) == 0
}

func isData(got impl.BytesResult, want []byte) bool {
	return got.Code == impl.OK && bytes.Equal(got.Bytes, want)
}

func isNoData(got impl.BytesResult, code int64) bool {
	return got.Code == code && len(got.Bytes) == 0
}

// boardByHand has the data of each code that has a clip.
func boardByHand(clips []impl.Clip) map[int64][]byte {
	board := map[int64][]byte{}
	for _, c := range clips {
		board[c.From] = c.Data
	}
	return board
}

func clipsByHand(board map[int64][]byte) []impl.Clip {
	var clips []impl.Clip
	for code := range int64(64) {
		if data, has := board[code]; has {
			clips = append(clips, clipFrom(code, data...))
		}
	}
	return clips
}

func putByHand(clips []impl.Clip, code int64, data []byte) []impl.Clip {
	board := boardByHand(clips)
	board[code] = data
	return clipsByHand(board)
}

// takenByHand looks labels up in the list of all of them, in which each one stands at its code.
func takenByHand(board map[int64][]byte, own impl.Label, from int64) impl.BytesResult {
	data, has := board[from]
	switch {
	case from < 0 || from > 63:
		return impl.BytesResult{Code: impl.ErrRange}
	case !above(own, allLabels()[from]):
		return impl.BytesResult{Code: impl.ErrDenied}
	case !has:
		return impl.BytesResult{Code: impl.ErrNone}
	}
	return impl.BytesResult{Bytes: data}
}

func seenByHand(clips []impl.Clip, own impl.Label) []impl.Clip {
	labels := allLabels()
	return slices.DeleteFunc(cloneClips(clips), func(c impl.Clip) bool { return !above(own, labels[c.From]) })
}

func sameData(a, b impl.BytesResult) bool {
	return a.Code == b.Code && bytes.Equal(a.Bytes, b.Bytes)
}

func TestClipConstants(t *testing.T) {
	if impl.MaxClips != 64 {
		t.Errorf("MaxClips: %d", impl.MaxClips)
	}
}

func TestClipsFaultRight(t *testing.T) {
	lists := rightClips()
	for code := range int64(64) {
		for _, size := range []int{0, 1, 23, 24} {
			lists = append(lists, []impl.Clip{clipFrom(code, countUp(size)...)})
		}
		for later := code + 1; later < 64; later++ {
			lists = append(lists, clipsOf(code, later))
		}
	}
	for _, clips := range lists {
		if got := impl.ClipsFault(clips); got != impl.OK {
			t.Errorf("ClipsFault(%v) = %d", clips, got)
		}
	}
}

// wrongClipList is a list with the code that the document asks of it.
type wrongClipList struct {
	clips []impl.Clip
	code  int64
}

func wrongFroms() []int64 {
	return append(wrongCodes(), -1)
}

func tooMuchData() [][]byte {
	return [][]byte{countUp(25), countUp(26), countUp(32), countUp(48), countUp(255), countUp(256), countUp(257), countUp(280), countUp(1 << 16), make([]byte, 25)}
}

// withTooManyClips has lists of which all else is right, and of which all else is wrong: how many there are is asked first.
func withTooManyClips() []wrongClipList {
	full := fullClips()
	lists := []wrongClipList{
		{append(fullClips(), clipFrom(64)), impl.ErrMany}, {append(fullClips(), clipFrom(63)), impl.ErrMany}, {append(fullClips(), clipFrom(0, 1)), impl.ErrMany},
		{append([]impl.Clip{clipFrom(-1)}, full...), impl.ErrMany}, {append([]impl.Clip{clipFrom(0)}, full...), impl.ErrMany}, {slices.Concat(full, full), impl.ErrMany},
	}
	for _, size := range []int{65, 66, 127, 128, 256, 257, 320, 1 << 16} {
		for _, from := range []int64{0, 63, 64, -1, math.MinInt64} {
			lists = append(lists, wrongClipList{slices.Repeat([]impl.Clip{clipFrom(from)}, size), impl.ErrMany},
				wrongClipList{slices.Repeat([]impl.Clip{clipFrom(from, countUp(25)...)}, size), impl.ErrMany})
		}
	}
	return lists
}

// withOneWrongClip has one wrong clip, alone and at each place among others.
func withOneWrongClip() []wrongClipList {
	var wrong []wrongClipList
	for _, from := range wrongFroms() {
		wrong = append(wrong, wrongClipList{[]impl.Clip{clipFrom(from)}, impl.ErrRange}, wrongClipList{[]impl.Clip{clipFrom(from, countUp(24)...)}, impl.ErrRange},
			wrongClipList{[]impl.Clip{clipFrom(from, countUp(25)...)}, impl.ErrRange})
	}
	for _, data := range tooMuchData() {
		wrong = append(wrong, wrongClipList{[]impl.Clip{clipFrom(0, data...)}, impl.ErrMany}, wrongClipList{[]impl.Clip{clipFrom(63, data...)}, impl.ErrMany})
	}
	for place := range 64 {
		for _, from := range []int64{-1, 64, math.MaxInt64, math.MinInt64} {
			clips := fullClips()
			clips[place].From = from
			wrong = append(wrong, wrongClipList{clips, impl.ErrRange}, wrongClipList{clips[:place+1], impl.ErrRange}, wrongClipList{clips[place:], impl.ErrRange})
		}
		clips := fullClips()
		clips[place].Data = countUp(25)
		wrong = append(wrong, wrongClipList{clips, impl.ErrMany}, wrongClipList{clips[:place+1], impl.ErrMany}, wrongClipList{clips[place:], impl.ErrMany})
	}
	return wrong
}

// withFalls has lists that do not rise at one place: two alike, two the wrong way round, and the first one once more later on.
func withFalls() []wrongClipList {
	wrong := []wrongClipList{{clipsOf(0, 0), impl.ErrForm}, {clipsOf(63, 63), impl.ErrForm}, {clipsOf(63, 0), impl.ErrForm}, {clipsOf(16, 1), impl.ErrForm},
		{[]impl.Clip{clipFrom(5, 1), clipFrom(5, 2)}, impl.ErrForm}, {[]impl.Clip{clipFrom(5), clipFrom(5, 9)}, impl.ErrForm}}
	for place := 1; place < 64; place++ {
		alike := fullClips()
		alike[place].From--
		turned := fullClips()
		turned[place-1], turned[place] = turned[place], turned[place-1]
		again := fullClips()
		again[place].From = 0
		for _, clips := range [][]impl.Clip{alike, turned, again} {
			wrong = append(wrong, wrongClipList{clips, impl.ErrForm}, wrongClipList{clips[:place+1], impl.ErrForm})
		}
		wrong = append(wrong, wrongClipList{alike[place-1:], impl.ErrForm}, wrongClipList{turned[place-1 : place+1], impl.ErrForm})
	}
	return wrong
}

// withSeveralWrongClips has lists in which the first clip that has a fault is told, and of its faults the first one.
func withSeveralWrongClips() []wrongClipList {
	long := countUp(25)
	return []wrongClipList{
		{[]impl.Clip{clipFrom(64, long...)}, impl.ErrRange},
		{[]impl.Clip{clipFrom(5), clipFrom(5, long...)}, impl.ErrMany},
		{[]impl.Clip{clipFrom(5), clipFrom(4, long...)}, impl.ErrMany},
		{[]impl.Clip{clipFrom(5), clipFrom(-1, long...)}, impl.ErrRange},
		{[]impl.Clip{clipFrom(5), clipFrom(-1)}, impl.ErrRange},
		{[]impl.Clip{clipFrom(5, long...), clipFrom(5)}, impl.ErrMany},
		{[]impl.Clip{clipFrom(5, long...), clipFrom(64)}, impl.ErrMany},
		{[]impl.Clip{clipFrom(5, long...), clipFrom(4, long...)}, impl.ErrMany},
		{[]impl.Clip{clipFrom(64), clipFrom(5, long...)}, impl.ErrRange},
		{[]impl.Clip{clipFrom(64), clipFrom(64)}, impl.ErrRange},
		{[]impl.Clip{clipFrom(5), clipFrom(5), clipFrom(64)}, impl.ErrForm},
		{[]impl.Clip{clipFrom(5), clipFrom(5), clipFrom(6, long...)}, impl.ErrForm},
		{[]impl.Clip{clipFrom(5), clipFrom(64), clipFrom(5)}, impl.ErrRange},
		{[]impl.Clip{clipFrom(5), clipFrom(64), clipFrom(6, long...)}, impl.ErrRange},
		{[]impl.Clip{clipFrom(5), clipFrom(6, long...), clipFrom(64)}, impl.ErrMany},
		{[]impl.Clip{clipFrom(5), clipFrom(6, long...), clipFrom(5)}, impl.ErrMany},
		{[]impl.Clip{clipFrom(5), clipFrom(4), clipFrom(6, long...), clipFrom(64)}, impl.ErrForm},
		{[]impl.Clip{clipFrom(5), clipFrom(4), clipFrom(5), clipFrom(4)}, impl.ErrForm},
		{append(fullClips(), clipFrom(64, long...)), impl.ErrMany},
		{append([]impl.Clip{clipFrom(64, long...)}, fullClips()...), impl.ErrMany},
	}
}

func wrongClipLists() []wrongClipList {
	return slices.Concat(withTooManyClips(), withOneWrongClip(), withFalls(), withSeveralWrongClips())
}

func TestClipsFaultWrong(t *testing.T) {
	for _, w := range wrongClipLists() {
		if got := impl.ClipsFault(w.clips); got != w.code {
			t.Errorf("ClipsFault of %d, %v.. = %d, not %d", len(w.clips), w.clips[:min(3, len(w.clips))], got, w.code)
		}
	}
}

// clipsFaultByHand asks the faults of one clip after the other, against the last one that was right.
func clipsFaultByHand(clips []impl.Clip) int64 {
	last := int64(-1)
	for _, c := range clips {
		switch {
		case c.From < 0 || c.From > 63:
			return 3
		case len(c.Data) > 24:
			return 2
		case c.From <= last:
			return 1
		}
		last = c.From
	}
	return 0
}

// Every list of up to three clips out of a few right and wrong ones.
func TestClipsFaultEverywhere(t *testing.T) {
	var few []impl.Clip
	for _, from := range []int64{-1, 0, 1, 30, 63, 64} {
		for _, size := range []int{0, 24, 25} {
			few = append(few, clipFrom(from, countUp(size)...))
		}
	}
	lists := [][]impl.Clip{nil}
	for range 3 {
		var longer [][]impl.Clip
		for _, clips := range lists {
			for _, c := range few {
				longer = append(longer, append(slices.Clone(clips), c))
			}
		}
		lists = longer
		for _, clips := range lists {
			if got, want := impl.ClipsFault(clips), clipsFaultByHand(clips); got != want {
				t.Errorf("ClipsFault(%v) = %d, not %d", clips, got, want)
			}
		}
	}
}

func TestPutByHand(t *testing.T) {
	low, a, b, top := label(0, 0), label(1, 1), label(1, 2), label(3, 15)
	cases := []struct {
		clips []impl.Clip
		own   impl.Label
		data  []byte
		want  []impl.Clip
	}{
		{nil, low, nil, []impl.Clip{clipFrom(0)}},
		{nil, low, []byte{9}, []impl.Clip{clipFrom(0, 9)}},
		{[]impl.Clip{}, top, []byte{9, 8}, []impl.Clip{clipFrom(63, 9, 8)}},
		{nil, label(2, 5), []byte{0}, []impl.Clip{clipFrom(37, 0)}},
		{[]impl.Clip{clipFrom(17, 1)}, low, []byte{2}, []impl.Clip{clipFrom(0, 2), clipFrom(17, 1)}},
		{[]impl.Clip{clipFrom(17, 1)}, b, []byte{2}, []impl.Clip{clipFrom(17, 1), clipFrom(18, 2)}},
		{[]impl.Clip{clipFrom(18, 1)}, a, []byte{2}, []impl.Clip{clipFrom(17, 2), clipFrom(18, 1)}},
		{[]impl.Clip{clipFrom(0, 1), clipFrom(18, 3)}, a, []byte{2}, []impl.Clip{clipFrom(0, 1), clipFrom(17, 2), clipFrom(18, 3)}},
		{[]impl.Clip{clipFrom(0, 1), clipFrom(17, 5, 6), clipFrom(18, 3)}, a, []byte{2}, []impl.Clip{clipFrom(0, 1), clipFrom(17, 2), clipFrom(18, 3)}},
		{[]impl.Clip{clipFrom(0, 1), clipFrom(17, 5, 6), clipFrom(18, 3)}, a, nil, []impl.Clip{clipFrom(0, 1), clipFrom(17), clipFrom(18, 3)}},
		{[]impl.Clip{clipFrom(0, 1), clipFrom(63)}, top, []byte{5}, []impl.Clip{clipFrom(0, 1), clipFrom(63, 5)}},
		{[]impl.Clip{clipFrom(0, 1), clipFrom(63, 5)}, low, []byte{7, 7}, []impl.Clip{clipFrom(0, 7, 7), clipFrom(63, 5)}},
	}
	for _, c := range cases {
		if got := impl.PutClip(c.clips, c.own, c.data); !isClips(got, c.want) {
			t.Errorf("PutClip(%v, %v, %v) = %v, not %v", c.clips, c.own, c.data, got, c.want)
		}
	}
}

func dataToPut() [][]byte {
	return [][]byte{nil, {}, {0}, {200}, countUp(2), countUp(23), countUp(24), make([]byte, 24)}
}

// Each label puts into each list: in front of, between, behind, and in place of clips that are there.
func TestPutEverywhere(t *testing.T) {
	for _, clips := range rightClips() {
		for code, own := range allLabels() {
			for _, data := range dataToPut() {
				got, want := impl.PutClip(clips, own, data), putByHand(clips, int64(code), data)
				if !isClips(got, want) || impl.ClipsFault(got.Clips) != impl.OK {
					t.Fatalf("PutClip(%v, %v, %v) = %v, not %v", clips, own, data, got, want)
				}
				if again := impl.PutClip(got.Clips, own, data); !isClips(again, want) {
					t.Fatalf("PutClip(%v, %v, %v) = %v, not the same", got.Clips, own, data, again)
				}
			}
		}
	}
}

// Too much is put nowhere, be there a clip of that label or not, nor is it cut.
func TestPutTooMuch(t *testing.T) {
	for _, clips := range rightClips() {
		for _, own := range allLabels() {
			for _, data := range tooMuchData() {
				if got := impl.PutClip(clips, own, data); !isNoClips(got, impl.ErrMany) {
					t.Fatalf("PutClip(%v, %v) of %d bytes = %v", clips, own, len(data), got)
				}
			}
		}
	}
}

// All 64 labels put one after the other, in several orders, and each one once more: the clips rise whatever the order was.
func TestPutByAllLabels(t *testing.T) {
	labels := allLabels()
	for _, order := range ordersOf(allCodes()) {
		var clips []impl.Clip
		board := map[int64][]byte{}
		for round := range int64(2) {
			for _, code := range order {
				data := dataOf((code + round) % 64)
				board[code] = data
				got := impl.PutClip(clips, labels[code], data)
				if !isClips(got, clipsByHand(board)) {
					t.Fatalf("PutClip(%v, %v, %v) = %v, not %v", clips, labels[code], data, got, clipsByHand(board))
				}
				clips = got.Clips
			}
		}
		if len(clips) != 64 {
			t.Errorf("put in the order %v: %d clips", order, len(clips))
		}
	}
}

// What was put under each label, alone and among the clips of all others, taken with each label.
func TestWhatWasPutIsTaken(t *testing.T) {
	labels := allLabels()
	for _, clips := range [][]impl.Clip{nil, clipsOf(0, 17, 18, 63), fullClips()} {
		for code, own := range labels {
			for _, data := range dataToPut() {
				put := impl.PutClip(clips, own, data).Clips
				for _, reader := range labels {
					got := impl.TakeClip(put, reader, int64(code))
					if above(reader, own) && !isData(got, data) || !above(reader, own) && !isNoData(got, impl.ErrDenied) {
						t.Fatalf("%v put %v into %v, %v takes %v", own, data, clips, reader, got)
					}
				}
			}
		}
	}
}

// Each label takes from each code: who gets it, who is denied, and who has none. What is denied is so whether a clip is there or not.
func TestTakeEverywhere(t *testing.T) {
	for _, clips := range rightClips() {
		board := boardByHand(clips)
		for _, own := range allLabels() {
			for from := int64(-2); from <= 66; from++ {
				if got, want := impl.TakeClip(clips, own, from), takenByHand(board, own, from); !sameData(got, want) {
					t.Fatalf("TakeClip(%v, %v, %d) = %v, not %v", clips, own, from, got, want)
				}
			}
		}
	}
}

// Of labels of one level with other parts none takes from the other one, nor sees it; nor does more of the one make up for less of the other.
func TestLabelsBesideOneAnother(t *testing.T) {
	clips := []impl.Clip{clipFrom(0, 10), clipFrom(16, 11), clipFrom(17, 12), clipFrom(18, 13), clipFrom(19, 14), clipFrom(32, 15), clipFrom(33), clipFrom(63, 16)}
	cases := []struct {
		own      impl.Label
		from     int64
		want     impl.BytesResult
		seenHere []int64
	}{
		{label(1, 1), 17, impl.BytesResult{Bytes: []byte{12}}, []int64{0, 16, 17}},
		{label(1, 1), 18, impl.BytesResult{Code: impl.ErrDenied}, []int64{0, 16, 17}},
		{label(1, 2), 17, impl.BytesResult{Code: impl.ErrDenied}, []int64{0, 16, 18}},
		{label(1, 1), 19, impl.BytesResult{Code: impl.ErrDenied}, []int64{0, 16, 17}},
		{label(1, 3), 17, impl.BytesResult{Bytes: []byte{12}}, []int64{0, 16, 17, 18, 19}},
		{label(1, 3), 18, impl.BytesResult{Bytes: []byte{13}}, []int64{0, 16, 17, 18, 19}},
		{label(1, 4), 18, impl.BytesResult{Code: impl.ErrDenied}, []int64{0, 16}},
		{label(1, 4), 20, impl.BytesResult{Code: impl.ErrNone}, []int64{0, 16}},
		{label(1, 4), 24, impl.BytesResult{Code: impl.ErrDenied}, []int64{0, 16}},
		{label(3, 0), 17, impl.BytesResult{Code: impl.ErrDenied}, []int64{0, 16, 32}},
		{label(3, 0), 32, impl.BytesResult{Bytes: []byte{15}}, []int64{0, 16, 32}},
		{label(3, 0), 48, impl.BytesResult{Code: impl.ErrNone}, []int64{0, 16, 32}},
		{label(0, 15), 16, impl.BytesResult{Code: impl.ErrDenied}, []int64{0}},
		{label(0, 15), 0, impl.BytesResult{Bytes: []byte{10}}, []int64{0}},
		{label(0, 15), 15, impl.BytesResult{Code: impl.ErrNone}, []int64{0}},
		{label(2, 1), 33, impl.BytesResult{}, []int64{0, 16, 17, 32, 33}},
		{label(2, 2), 33, impl.BytesResult{Code: impl.ErrDenied}, []int64{0, 16, 18, 32}},
		{label(3, 14), 63, impl.BytesResult{Code: impl.ErrDenied}, []int64{0, 16, 18, 32}},
		{label(2, 15), 63, impl.BytesResult{Code: impl.ErrDenied}, []int64{0, 16, 17, 18, 19, 32, 33}},
		{label(3, 15), 63, impl.BytesResult{Bytes: []byte{16}}, []int64{0, 16, 17, 18, 19, 32, 33, 63}},
	}
	for _, c := range cases {
		if got := impl.TakeClip(clips, c.own, c.from); !sameData(got, c.want) {
			t.Errorf("TakeClip(%v, %d) = %v, not %v", c.own, c.from, got, c.want)
		}
		var seen []int64
		for _, s := range impl.SeenClips(clips, c.own).Clips {
			seen = append(seen, s.From)
		}
		if !slices.Equal(seen, c.seenHere) {
			t.Errorf("SeenClips of %v: from %v, not %v", c.own, seen, c.seenHere)
		}
	}
}

// from is asked ahead of whether it is denied, and whether there is one.
func TestTakeWrongFrom(t *testing.T) {
	for _, clips := range rightClips() {
		for _, own := range allLabels() {
			for _, from := range wrongFroms() {
				if got := impl.TakeClip(clips, own, from); !isNoData(got, impl.ErrRange) {
					t.Fatalf("TakeClip(%v, %v, %d) = %v", clips, own, from, got)
				}
			}
		}
	}
}

func TestSeenEverywhere(t *testing.T) {
	for _, clips := range rightClips() {
		for _, own := range allLabels() {
			got, want := impl.SeenClips(clips, own), seenByHand(clips, own)
			if !isClips(got, want) || impl.ClipsFault(got.Clips) != impl.OK {
				t.Fatalf("SeenClips(%v, %v) = %v, not %v", clips, own, got, want)
			}
			if again := impl.SeenClips(got.Clips, own); !isClips(again, want) {
				t.Fatalf("SeenClips(%v, %v) = %v, not the same", got.Clips, own, again)
			}
		}
	}
}

// What is seen is what is taken: from what a label sees it takes the same as from all clips, and what others put beside it turns neither.
func TestSeenIsTaken(t *testing.T) {
	labels := allLabels()
	for _, clips := range rightClips() {
		for place, own := range labels {
			seen := impl.SeenClips(clips, own).Clips
			for from := range int64(64) {
				if all, few := impl.TakeClip(clips, own, from), impl.TakeClip(seen, own, from); !sameData(all, few) {
					t.Fatalf("%v takes %v from %d of %v, and %v of %v", own, all, from, clips, few, seen)
				}
			}
			if other := labels[(place*7+13)%64]; !above(own, other) {
				put := impl.PutClip(clips, other, []byte{1, 2, 3}).Clips
				if got := impl.SeenClips(put, own); !isClips(got, seen) {
					t.Fatalf("%v sees %v of %v, what %v put", own, got, put, other)
				}
			}
		}
	}
}

// checkClipCodes asks that all functions with clips and a label tell just that code, whatever is put, and whatever is asked for.
func checkClipCodes(t *testing.T, clips []impl.Clip, own impl.Label, code int64) {
	t.Helper()
	for _, data := range [][]byte{nil, {1}, countUp(24), countUp(25)} {
		if got := impl.PutClip(clips, own, data); !isNoClips(got, code) {
			t.Errorf("PutClip of %d, %v.., %v, %v = %v, not %d", len(clips), clips[:min(3, len(clips))], own, data, got, code)
		}
	}
	for _, from := range []int64{0, 17, 63, -1, 64, math.MaxInt64, math.MinInt64} {
		if got := impl.TakeClip(clips, own, from); !isNoData(got, code) {
			t.Errorf("TakeClip of %d, %v.., %v, %d = %v, not %d", len(clips), clips[:min(3, len(clips))], own, from, got, code)
		}
	}
	if got := impl.SeenClips(clips, own); !isNoClips(got, code) {
		t.Errorf("SeenClips of %d, %v.., %v = %v, not %d", len(clips), clips[:min(3, len(clips))], own, got, code)
	}
}

// The clips are asked ahead of the label, and ahead of all else.
func TestWrongClips(t *testing.T) {
	owns := []impl.Label{label(0, 0), label(1, 2), label(3, 15), label(4, 0), label(0, -1), label(math.MinInt64, math.MaxInt64)}
	for _, w := range wrongClipLists() {
		for _, own := range owns {
			checkClipCodes(t, w.clips, own, w.code)
		}
	}
	for _, w := range withSeveralWrongClips() {
		for _, own := range append(allLabels(), wrongLabels()...) {
			checkClipCodes(t, w.clips, own, w.code)
		}
	}
}

// The label is asked ahead of what is put, and of from.
func TestWrongOwnOfClips(t *testing.T) {
	for _, clips := range rightClips() {
		for _, own := range wrongLabels() {
			checkClipCodes(t, clips, own, impl.ErrRange)
		}
	}
}

// clipsTurnedOnce has lists that differ from clips in one thing alone.
func clipsTurnedOnce(clips []impl.Clip) [][]impl.Clip {
	lists := [][]impl.Clip{append(cloneClips(clips), clipFrom(0)), append(cloneClips(clips), clipFrom(63, 1)), append([]impl.Clip{clipFrom(0)}, clips...)}
	for place, c := range clips {
		lists = append(lists, slices.Delete(cloneClips(clips), place, place+1))
		for _, from := range []int64{c.From + 1, c.From - 1, c.From ^ 1<<32, c.From ^ 256, c.From ^ math.MinInt64} {
			turned := cloneClips(clips)
			turned[place].From = from
			lists = append(lists, turned)
		}
		longer := cloneClips(clips)
		longer[place].Data = append(longer[place].Data, 0)
		lists = append(lists, longer)
		for at := range c.Data {
			turned, shorter := cloneClips(clips), cloneClips(clips)
			turned[place].Data[at] ^= 128
			shorter[place].Data = shorter[place].Data[:at]
			lists = append(lists, turned, shorter)
		}
	}
	return lists
}

func TestSameClipsOneThing(t *testing.T) {
	// Wrong clips are held against each other, too: all is the same, or it is not.
	lists := append(rightClips(), clipsOf(5, 5), clipsOf(9, 3), []impl.Clip{clipFrom(-1, 1), clipFrom(math.MaxInt64)}, []impl.Clip{clipFrom(3, countUp(40)...)},
		append(fullClips(), clipFrom(64)))
	for _, clips := range lists {
		if !impl.SameClips(clips, clips) || !impl.SameClips(clips, cloneClips(clips)) {
			t.Errorf("SameClips of %v and itself is not so", clips)
		}
		for _, other := range clipsTurnedOnce(clips) {
			if impl.SameClips(clips, other) || impl.SameClips(other, clips) {
				t.Fatalf("SameClips(%v, %v) is so", clips, other)
			}
		}
	}
}

func TestSameClipsByHand(t *testing.T) {
	same := [][2][]impl.Clip{
		{nil, nil}, {nil, {}}, {{}, {}},
		{{{From: 5, Data: nil}}, {{From: 5, Data: []byte{}}}},
		{{clipFrom(5, 1), clipFrom(6)}, {clipFrom(5, 1), clipFrom(6)}},
		{{clipFrom(64)}, {clipFrom(64)}},
		{{clipFrom(5), clipFrom(5)}, {clipFrom(5), clipFrom(5)}},
	}
	for _, pair := range same {
		if !impl.SameClips(pair[0], pair[1]) || !impl.SameClips(pair[1], pair[0]) {
			t.Errorf("SameClips(%v, %v) is not so", pair[0], pair[1])
		}
	}
	different := [][2][]impl.Clip{
		{nil, {clipFrom(0)}},
		{{clipFrom(0)}, {clipFrom(1)}},
		{{clipFrom(0)}, {clipFrom(0, 0)}},
		{{clipFrom(0, 1, 2)}, {clipFrom(0, 2, 1)}},
		{{clipFrom(5, 1), clipFrom(6)}, {clipFrom(5), clipFrom(6, 1)}},
		{{clipFrom(5, 1), clipFrom(6)}, {clipFrom(6), clipFrom(5, 1)}},
		{{clipFrom(5, 1)}, {clipFrom(5, 1), clipFrom(6)}},
		{{clipFrom(5), clipFrom(5)}, {clipFrom(5)}},
		{{clipFrom(64)}, {clipFrom(65)}},
		{{clipFrom(5, 1)}, {clipFrom(1, 5)}},
	}
	for _, pair := range different {
		if impl.SameClips(pair[0], pair[1]) || impl.SameClips(pair[1], pair[0]) {
			t.Errorf("SameClips(%v, %v) is so", pair[0], pair[1])
		}
	}
}

// Every two of the right lists are the same where they are one, or where both are nothing.
func TestSameClipsEachTwo(t *testing.T) {
	lists := rightClips()
	for place, a := range lists {
		for other, b := range lists {
			want := place == other || len(a) == 0 && len(b) == 0
			if got := impl.SameClips(a, b); got != want {
				t.Errorf("SameClips(%v, %v) = %v", a, b, got)
			}
		}
	}
}

// clipsInMemory lays all clips, and all their bytes, into the midst of one memory each.
func clipsInMemory(clips []impl.Clip) (inside, memory []impl.Clip, data []byte) {
	data = []byte{7, 7}
	for _, c := range clips {
		data = append(data, c.Data...)
	}
	data = append(data, 7, 7, 7, 7)
	memory = []impl.Clip{clipFrom(6, 1)}
	from := 2
	for _, c := range clips {
		memory = append(memory, impl.Clip{From: c.From, Data: data[from : from+len(c.Data)]})
		from += len(c.Data)
	}
	memory = append(memory, clipFrom(6, 2), clipFrom(6, 3), clipFrom(6, 4))
	return memory[1 : 1+len(clips)], memory, data
}

func TestClipsChangeNoArgument(t *testing.T) {
	lists := append(rightClips(), clipsOf(5, 5), clipsOf(9, 3), append(fullClips(), clipFrom(64)), []impl.Clip{clipFrom(-1, 1), clipFrom(64, 2)}, []impl.Clip{clipFrom(3, countUp(40)...)})
	for _, clips := range lists {
		inside, memory, bytesOf := clipsInMemory(clips)
		wasMemory, wasBytes := cloneClips(memory), slices.Clone(bytesOf)
		for code, own := range append(allLabels(), label(4, 0), label(0, -1)) {
			data := countUp(40)
			impl.ClipsFault(inside)
			impl.PutClip(inside, own, data[:2])
			impl.PutClip(inside, own, data[:25])
			impl.PutClip(inside, own, nil)
			impl.TakeClip(inside, own, int64(code))
			impl.TakeClip(inside, own, 0)
			impl.SeenClips(inside, own)
			impl.SameClips(inside, inside[:len(inside)/2])
			if !sameClipsByHand(memory, wasMemory) || !bytes.Equal(bytesOf, wasBytes) || !bytes.Equal(data, countUp(40)) {
				t.Fatalf("%v with %v: changed to %v, %v, %v", clips, own, memory, bytesOf, data)
			}
		}
	}
}

func overwriteClips(list []impl.Clip) {
	all := list[:cap(list)]
	for place := range all {
		all[place] = clipFrom(77, 77)
	}
}

// checkClipsAlone turns an answer's list, and one of its lists of bytes after the other: nothing else turns, there and in another answer.
func checkClipsAlone(t *testing.T, again func() []impl.Clip) {
	t.Helper()
	turned, other := again(), again()
	was := cloneClips(other)
	overwriteClips(turned)
	_ = append(turned, clipFrom(77), clipFrom(77))
	if !sameClipsByHand(other, was) {
		t.Fatalf("turned with another answer: %v, not %v", other, was)
	}
	for place := range was {
		turned := again()
		overwriteBytes(turned[place].Data)
		_ = append(turned[place].Data, 77, 77, 77)
		turned[place].Data = was[place].Data
		if !sameClipsByHand(turned, was) || !sameClipsByHand(other, was) {
			t.Fatalf("turned with the data at %d: %v, %v, not %v", place, turned, other, was)
		}
	}
}

// checkClipsAreNew asks that a call's answer turns neither with what was handed in, nor that with the answer.
func checkClipsAreNew(t *testing.T, clips []impl.Clip, data []byte, call func([]impl.Clip, []byte) []impl.Clip) {
	t.Helper()
	clips, data = cloneClips(clips), slices.Clone(data)
	wasClips, wasData := cloneClips(clips), slices.Clone(data)
	again := func() []impl.Clip { return call(clips, data) }
	checkClipsAlone(t, again)
	if !sameClipsByHand(clips, wasClips) || !bytes.Equal(data, wasData) {
		t.Fatalf("%v, %v: turned with an answer: %v, %v", wasClips, wasData, clips, data)
	}
	kept := again()
	was := cloneClips(kept)
	for _, c := range clips {
		overwriteBytes(c.Data)
	}
	overwriteBytes(data)
	overwriteClips(clips)
	if !sameClipsByHand(kept, was) {
		t.Fatalf("%v, %v: the answer turned with them: %v, not %v", wasClips, wasData, kept, was)
	}
}

func TestClipAnswersAreNew(t *testing.T) {
	for _, clips := range rightClips() {
		for _, own := range []impl.Label{label(0, 0), label(1, 2), label(1, 15), label(2, 1), label(3, 0), label(3, 15)} {
			for _, data := range [][]byte{nil, {5}, countUp(24)} {
				checkClipsAreNew(t, clips, data, func(clips []impl.Clip, data []byte) []impl.Clip { return impl.PutClip(clips, own, data).Clips })
			}
			checkClipsAreNew(t, clips, nil, func(clips []impl.Clip, _ []byte) []impl.Clip { return impl.SeenClips(clips, own).Clips })
		}
	}
}

func TestTakenAnswersAreNew(t *testing.T) {
	own := label(3, 15)
	for _, list := range rightClips() {
		for place, c := range list {
			clips := cloneClips(list)
			one, other, kept := impl.TakeClip(clips, own, c.From).Bytes, impl.TakeClip(clips, own, c.From).Bytes, impl.TakeClip(clips, own, c.From).Bytes
			overwriteBytes(one)
			_ = append(one, 77, 77, 77)
			if !sameClipsByHand(clips, list) || !bytes.Equal(other, c.Data) {
				t.Fatalf("%v from %d: turned with an answer: %v, %v", list, c.From, clips, other)
			}
			overwriteBytes(clips[place].Data)
			overwriteClips(clips)
			if !bytes.Equal(kept, c.Data) {
				t.Fatalf("%v from %d: the answer turned with the clips: %v", list, c.From, kept)
			}
		}
	}
}

// Two clips may share their bytes, which may be those that are put, too: in the answer they do not.
func TestSharedBytesArePartedInClips(t *testing.T) {
	shared := []byte{1, 2, 3}
	clips := []impl.Clip{{From: 0, Data: shared}, {From: 16, Data: shared}, {From: 17, Data: shared[:2]}, {From: 18, Data: shared[1:]}}
	own := label(1, 3)
	for _, call := range []func() []impl.Clip{
		func() []impl.Clip { return impl.PutClip(clips, own, shared).Clips },
		func() []impl.Clip { return impl.PutClip(clips, label(0, 0), shared).Clips },
		func() []impl.Clip { return impl.PutClip(clips, label(1, 1), shared[:1]).Clips },
		func() []impl.Clip { return impl.SeenClips(clips, own).Clips },
	} {
		checkClipsAlone(t, call)
	}
	if !bytes.Equal(shared, []byte{1, 2, 3}) {
		t.Errorf("the shared bytes turned to %v", shared)
	}
}

// Two puts into one list make two lists that know nothing of each other.
func TestPutTwiceIntoOneList(t *testing.T) {
	for _, clips := range rightClips() {
		base := impl.PutClip(clips, label(1, 4), []byte{1, 2, 3}).Clips
		one, other := impl.PutClip(base, label(2, 3), []byte{4}), impl.PutClip(base, label(2, 3), []byte{5, 6})
		again := impl.PutClip(base, label(1, 4), []byte{9})
		if !isClips(one, putByHand(base, 35, []byte{4})) || !isClips(other, putByHand(base, 35, []byte{5, 6})) || !isClips(again, putByHand(base, 20, []byte{9})) ||
			!sameClipsByHand(base, putByHand(clips, 20, []byte{1, 2, 3})) {
			t.Errorf("%v and three puts: %v, %v, %v", base, one, other, again)
		}
	}
}

// clipAnswers holds what the functions of the chapter answer at two lists, one label, data and one code.
type clipAnswers struct {
	fault     int64
	put, seen impl.ClipsResult
	taken     impl.BytesResult
	same      bool
}

func clipAnswersAt(clips, other []impl.Clip, own impl.Label, data []byte, from int64) clipAnswers {
	return clipAnswers{fault: impl.ClipsFault(clips), put: impl.PutClip(clips, own, data), seen: impl.SeenClips(clips, own),
		taken: impl.TakeClip(clips, own, from), same: impl.SameClips(clips, other)}
}

func sameClipAnswers(a, b clipAnswers) bool {
	return a.fault == b.fault && a.put.Code == b.put.Code && sameClipsByHand(a.put.Clips, b.put.Clips) && a.same == b.same &&
		a.seen.Code == b.seen.Code && sameClipsByHand(a.seen.Clips, b.seen.Clips) && sameData(a.taken, b.taken)
}

// Asked again, in another order and with other calls between, every answer is the same.
func TestClipsKeepNothing(t *testing.T) {
	lists := rightClips()
	for _, w := range withSeveralWrongClips() {
		lists = append(lists, w.clips)
	}
	owns := append(allLabels(), wrongLabels()...)
	at := func(i int) clipAnswers {
		return clipAnswersAt(lists[i%len(lists)], lists[i/3%len(lists)], owns[i*5%len(owns)], countUp(i%27), int64(i%66-1))
	}
	const turns = 5000
	var first []clipAnswers
	for i := range turns {
		first = append(first, at(i))
	}
	for i := turns - 1; i >= 0; i-- {
		if again := at(i); !sameClipAnswers(again, first[i]) {
			t.Errorf("at %d: first %v, then %v", i, first[i], again)
		}
	}
}
