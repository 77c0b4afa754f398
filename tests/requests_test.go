package tests

import (
	"bytes"
	"fmt"
	"math"
	"slices"
	"strings"
	"testing"

	"loop.example/g00545/impl"
)

// argCounts has, at each kind, how many numbers it has; there is no kind 0.
var argCounts = [14]int{0, 4, 1, 1, 1, 1, 3, 6, 7, 3, 0, 0, 1, 1}

func ask(kind int64, args ...int64) impl.Request {
	return impl.Request{Kind: kind, Args: args}
}

func clip(data ...byte) impl.Request {
	return impl.Request{Kind: impl.AskClip, Data: data}
}

func cloneRequest(r impl.Request) impl.Request {
	return impl.Request{Kind: r.Kind, Args: slices.Clone(r.Args), Data: slices.Clone(r.Data)}
}

// sameByHand holds requests against each other without the program.
func sameByHand(a, b impl.Request) bool {
	return a.Kind == b.Kind && slices.Equal(a.Args, b.Args) && bytes.Equal(a.Data, b.Data)
}

func isRequest(got impl.RequestResult, want impl.Request) bool {
	return got.Code == impl.OK && sameByHand(got.Request, want)
}

func isNoRequest(got impl.RequestResult) bool {
	return got.Code == impl.ErrText && sameByHand(got.Request, impl.Request{})
}

func countUp(size int) []byte {
	data := make([]byte, size)
	for place := range data {
		data[place] = byte(place + 1)
	}
	return data
}

// rightRequest is a request with what its bytes and its text are, written out by hand.
type rightRequest struct {
	request impl.Request
	packed  []byte
	text    string
}

func rightByHand() []rightRequest {
	return []rightRequest{
		{ask(impl.AskMake, 1, 2, 3, 4), []byte{5, 1, 1, 2, 3, 4}, "1,1,2,3,4"},
		{ask(impl.AskMake, 0, 255, 10, 100), []byte{5, 1, 0, 255, 10, 100}, "1,0,255,10,100"},
		{ask(impl.AskDrop, 193), []byte{2, 2, 193}, "2,193"},
		{ask(impl.AskMap, 65), []byte{2, 3, 65}, "3,65"},
		{ask(impl.AskMap, 0), []byte{2, 3, 0}, "3,0"},
		{ask(impl.AskMap, 255), []byte{2, 3, 255}, "3,255"},
		{ask(impl.AskUnmap, 44), []byte{2, 4, 44}, "4,44"},
		{ask(impl.AskRaise, 10), []byte{2, 5, 10}, "5,10"},
		{ask(impl.AskMove, 129, 7, 9), []byte{4, 6, 129, 7, 9}, "6,129,7,9"},
		{ask(impl.AskFill, 1, 0, 2, 8, 6, 255), []byte{7, 7, 1, 0, 2, 8, 6, 255}, "7,1,0,2,8,6,255"},
		{ask(impl.AskCopy, 2, 0, 1, 3, 2, 4, 5), []byte{8, 8, 2, 0, 1, 3, 2, 4, 5}, "8,2,0,1,3,2,4,5"},
		{ask(impl.AskCopy, 0, 0, 0, 0, 0, 0, 0), []byte{8, 8, 0, 0, 0, 0, 0, 0, 0}, "8,0,0,0,0,0,0,0"},
		{ask(impl.AskPoint, 67, 255, 0), []byte{4, 9, 67, 255, 0}, "9,67,255,0"},
		{ask(impl.AskList), []byte{1, 10}, "10"},
		{clip(), []byte{1, 11}, "11"},
		{clip(0), []byte{2, 11, 0}, "11,0"},
		{clip(255), []byte{2, 11, 255}, "11,255"},
		{clip(7, 8), []byte{3, 11, 7, 8}, "11,7,8"},
		{clip(0, 255, 0), []byte{4, 11, 0, 255, 0}, "11,0,255,0"},
		{clip(44, 10, 44), []byte{4, 11, 44, 10, 44}, "11,44,10,44"},
		{clip(countUp(24)...), append([]byte{25, 11}, countUp(24)...),
			"11,1,2,3,4,5,6,7,8,9,10,11,12,13,14,15,16,17,18,19,20,21,22,23,24"},
		{ask(impl.AskTake, 63), []byte{2, 12, 63}, "12,63"},
		{ask(impl.AskPaste, 0), []byte{2, 13, 0}, "13,0"},
		{ask(impl.AskPaste, 200), []byte{2, 13, 200}, "13,200"},
	}
}

// rightRequests has those by hand, and of every kind those with each number at the bounds and between them.
func rightRequests() []impl.Request {
	var all []impl.Request
	for _, right := range rightByHand() {
		all = append(all, right.request)
	}
	for kind := int64(1); kind <= 13; kind++ {
		for place := range argCounts[kind] {
			for _, number := range []int64{0, 1, 9, 10, 99, 100, 127, 128, 254, 255} {
				args := slices.Repeat([]int64{5}, argCounts[kind])
				args[place] = number
				all = append(all, ask(kind, args...))
			}
		}
	}
	for size := range 25 {
		all = append(all, clip(countUp(size)...), clip(make([]byte, size)...), clip(bytes.Repeat([]byte{255}, size)...))
	}
	return all
}

// wrongKinds has such that would be right ones in fewer bits, too.
func wrongKinds() []int64 {
	return []int64{0, 14, 15, 100, 255, 256, 257, 256 + 11, -1, -2, -11, -13, 3 - 256, 1<<16 + 3, 1 << 32, 1<<32 + 11, -1 << 32, 3 - 1<<32,
		math.MaxInt64, math.MaxInt64 - 1, math.MinInt64, math.MinInt64 + 1, math.MinInt64 + 11}
}

func wrongArgs() []int64 {
	return []int64{-1, 256, 257, -255, -256, 1 << 16, 1 << 32, 1<<32 + 1, -1 << 32,
		math.MaxInt64, math.MaxInt64 - 1, math.MinInt64, math.MinInt64 + 1}
}

// wrongRequest is a request with the code that the document asks of it.
type wrongRequest struct {
	request impl.Request
	code    int64
}

func withWrongKinds() []wrongRequest {
	var all []wrongRequest
	for _, kind := range wrongKinds() {
		for size := range 8 {
			args := make([]int64, size)
			all = append(all, wrongRequest{ask(kind, args...), impl.ErrRange})
		}
		// The kind is asked ahead of all else.
		all = append(all, wrongRequest{ask(kind, -1, 256), impl.ErrRange},
			wrongRequest{ask(kind, make([]int64, 300)...), impl.ErrRange},
			wrongRequest{impl.Request{Kind: kind, Data: []byte{7}}, impl.ErrRange},
			wrongRequest{impl.Request{Kind: kind, Args: []int64{1}, Data: make([]byte, 25)}, impl.ErrRange})
	}
	return all
}

// withWrongCounts has of every kind wrong numbers of Args and wrong Data, with right numbers and with wrong ones among them:
// how many there are is asked ahead of what they are.
func withWrongCounts() []wrongRequest {
	var all []wrongRequest
	for kind := int64(1); kind <= 13; kind++ {
		count := argCounts[kind]
		for _, number := range []int64{0, 5, 255, -1, 256, math.MaxInt64, math.MinInt64} {
			for _, size := range []int{0, 1, 2, 3, 4, 5, 6, 7, 8, 9, 24, 25, count + 256} {
				if size != count {
					all = append(all, wrongRequest{ask(kind, slices.Repeat([]int64{number}, size)...), impl.ErrMany})
				}
			}
			for _, size := range []int{1, 2, 24, 25, 26, 256, 1000} {
				if kind != impl.AskClip || size > 24 {
					r := ask(kind, slices.Repeat([]int64{number}, count)...)
					r.Data = countUp(size)
					all = append(all, wrongRequest{r, impl.ErrMany})
				}
			}
		}
	}
	both := clip(1)
	both.Args = []int64{1}
	return append(all, wrongRequest{both, impl.ErrMany})
}

func withWrongNumbers() []wrongRequest {
	var all []wrongRequest
	for kind := int64(1); kind <= 13; kind++ {
		for place := range argCounts[kind] {
			for _, number := range wrongArgs() {
				args := slices.Repeat([]int64{255}, argCounts[kind])
				args[place] = number
				all = append(all, wrongRequest{ask(kind, args...), impl.ErrRange})
			}
		}
	}
	return all
}

func wrongRequests() []wrongRequest {
	return slices.Concat(withWrongKinds(), withWrongCounts(), withWrongNumbers())
}

func TestRequestConstants(t *testing.T) {
	kinds := [13]int64{impl.AskMake, impl.AskDrop, impl.AskMap, impl.AskUnmap, impl.AskRaise, impl.AskMove, impl.AskFill,
		impl.AskCopy, impl.AskPoint, impl.AskList, impl.AskClip, impl.AskTake, impl.AskPaste}
	if kinds != [13]int64{1, 2, 3, 4, 5, 6, 7, 8, 9, 10, 11, 12, 13} {
		t.Errorf("kinds: %v", kinds)
	}
	if impl.MaxData != 24 {
		t.Errorf("MaxData: %d", impl.MaxData)
	}
}

func TestArgsOf(t *testing.T) {
	for kind := int64(1); kind <= 13; kind++ {
		if got := impl.ArgsOf(kind); got != (impl.IntResult{Value: int64(argCounts[kind])}) {
			t.Errorf("ArgsOf(%d) = %v", kind, got)
		}
	}
	for _, kind := range wrongKinds() {
		if got := impl.ArgsOf(kind); got != (impl.IntResult{Code: impl.ErrRange}) {
			t.Errorf("ArgsOf(%d) = %v", kind, got)
		}
	}
}

func TestRequestFault(t *testing.T) {
	for _, r := range rightRequests() {
		if got := impl.RequestFault(r); got != impl.OK {
			t.Errorf("RequestFault(%v) = %d", r, got)
		}
	}
	for _, w := range wrongRequests() {
		if got := impl.RequestFault(w.request); got != w.code {
			t.Errorf("RequestFault(%v) = %d, not %d", w.request, got, w.code)
		}
	}
}

// A list that is there and empty is as good as one that is not there.
func TestRequestEmptyLists(t *testing.T) {
	list := impl.Request{Kind: impl.AskList, Args: []int64{}, Data: []byte{}}
	if impl.RequestFault(list) != impl.OK || string(impl.PackRequest(list).Bytes) != "\x01\x0a" || impl.RequestText(list).Text != "10" {
		t.Errorf("%v: %d, %v, %v", list, impl.RequestFault(list), impl.PackRequest(list), impl.RequestText(list))
	}
	for kind := int64(1); kind <= 13; kind++ {
		args := slices.Repeat([]int64{1}, argCounts[kind])
		if got := impl.RequestFault(impl.Request{Kind: kind, Args: args, Data: []byte{}}); got != impl.OK {
			t.Errorf("kind %d with empty Data: %d", kind, got)
		}
	}
}

func TestPackAndReadByHand(t *testing.T) {
	for _, right := range rightByHand() {
		if got := impl.PackRequest(right.request); got.Code != impl.OK || !bytes.Equal(got.Bytes, right.packed) {
			t.Errorf("PackRequest(%v) = %v, not %v", right.request, got, right.packed)
		}
		if got := impl.ReadBody(right.packed[1:]); !isRequest(got, right.request) {
			t.Errorf("ReadBody(%v) = %v, not %v", right.packed[1:], got, right.request)
		}
	}
}

func TestTextAndParseByHand(t *testing.T) {
	for _, right := range rightByHand() {
		if got := impl.RequestText(right.request); got != (impl.TextResult{Text: right.text}) {
			t.Errorf("RequestText(%v) = %v, not %q", right.request, got, right.text)
		}
		if got := impl.ParseRequest(right.text); !isRequest(got, right.request) {
			t.Errorf("ParseRequest(%q) = %v, not %v", right.text, got, right.request)
		}
	}
}

func TestRequestsAreReadBack(t *testing.T) {
	for _, r := range rightRequests() {
		packed := impl.PackRequest(r)
		if packed.Code != impl.OK || len(packed.Bytes) != 2+len(r.Args)+len(r.Data) || int(packed.Bytes[0]) != len(packed.Bytes)-1 {
			t.Fatalf("PackRequest(%v) = %v", r, packed)
		}
		if got := impl.ReadBody(packed.Bytes[1:]); !isRequest(got, r) {
			t.Errorf("%v is read back from its bytes as %v", r, got)
		}
		text := impl.RequestText(r)
		if got := impl.ParseRequest(text.Text); text.Code != impl.OK || !isRequest(got, r) {
			t.Errorf("%v is read back from its text %v as %v", r, text, got)
		}
	}
}

func TestPackAndTextWrong(t *testing.T) {
	for _, w := range wrongRequests() {
		if got := impl.PackRequest(w.request); got.Code != w.code || len(got.Bytes) != 0 {
			t.Errorf("PackRequest(%v) = %v, not code %d", w.request, got, w.code)
		}
		if got := impl.RequestText(w.request); got != (impl.TextResult{Code: w.code}) {
			t.Errorf("RequestText(%v) = %v, not code %d", w.request, got, w.code)
		}
	}
}

// requestOfBody tells by the counts alone which request a body is, and whether it is one.
func requestOfBody(body []byte) (impl.Request, bool) {
	if len(body) == 0 || body[0] < 1 || body[0] > 13 {
		return impl.Request{}, false
	}
	if body[0] == impl.AskClip {
		return clip(body[1:]...), len(body) <= 25
	}
	r := ask(int64(body[0]))
	for _, number := range body[1:] {
		r.Args = append(r.Args, int64(number))
	}
	return r, len(r.Args) == argCounts[body[0]]
}

func checkBody(t *testing.T, body []byte) {
	want, right := requestOfBody(body)
	if got := impl.ReadBody(body); right && !isRequest(got, want) || !right && !isNoRequest(got) {
		t.Errorf("ReadBody(%v) = %v, not %v (%v)", body, got, want, right)
	}
}

// Every kind that a byte can be, with every length that is near to a right one, and some that are far too long.
func TestReadBodyEverywhere(t *testing.T) {
	checkBody(t, nil)
	checkBody(t, []byte{})
	sizes := []int{255, 256, 257, 260, 263, 280, 281, 1000}
	for size := range 40 {
		sizes = append(sizes, size)
	}
	for kind := range 256 {
		for _, size := range sizes {
			for _, fill := range [][]byte{{0}, {1}, {44}, {255}} {
				checkBody(t, append([]byte{byte(kind)}, bytes.Repeat(fill, size)...))
			}
			checkBody(t, append([]byte{byte(kind)}, countUp(size)...))
		}
	}
}

func TestReadBodyWrongByHand(t *testing.T) {
	for _, body := range [][]byte{nil, {}, {0}, {14}, {255}, {3}, {3, 65, 1}, {1, 1, 2, 3}, {1, 1, 2, 3, 4, 5}, {10, 0}, {2, 3, 65},
		{7, 1, 2, 3, 4, 5}, {7, 1, 2, 3, 4, 5, 6, 7}, {8, 1, 2, 3, 4, 5, 6}, {8, 1, 2, 3, 4, 5, 6, 7, 8},
		append([]byte{11}, countUp(25)...), make([]byte, 25), countUp(1 << 16)} {
		if got := impl.ReadBody(body); !isNoRequest(got) {
			t.Errorf("ReadBody(%v) = %v", body, got)
		}
	}
}

func TestParseRequestWrongByHand(t *testing.T) {
	texts := []string{
		"", ",", ",,", "3,", ",3", ",3,65", "3,65,", "3,,65", "3, 65", " 3,65", "3,65 ", "3 ,65", "3,65\n", "3,6 5", "3;65", "3.65", "3 65", "3",
		"10,", ",10", "11,", "11,,", "11,7,,8", "11,,7", "10,0",
		"+3,65", "3,+65", "-3,65", "3,-65", "3,-0", "3,+0", "-11", "+11", "10,-1",
		"03,65", "3,065", "3,00", "3,0065", "011", "0010", "11,00", "11,01", "11,000", "11,0000000000000000000000000007",
		"3,a", "a,65", "3,6a", "3,0x41", "0x3,65", "3,0b1", "3,0o7", "3,1e1", "3,6_5", "3,1_0", "AskMap,65", "3,six", "3,\u0666", "3,\uff16", "3,\xff", "3,6\x00", "\x03,\x41",
		"3,256", "3,300", "3,999", "3,1000", "3,0255", "3,512", "3,65536", "3,321", "3,4294967361", "3,9223372036854775807", "3,9223372036854775808",
		"3,18446744073709551615", "3,18446744073709551616", "3,18446744073709551681", "11,256", "11,7,256", "11,1,2,999",
		"3," + strings.Repeat("9", 1000), strings.Repeat("1", 1000), "3," + strings.Repeat("0", 1000) + "1",
		"0", "14", "0,65", "14,65", "15", "99,1", "100", "255", "256", "259,65", "-1", "267,7", "4294967299,65", "18446744073709551619,65",
		"1,1,2,3", "1,1,2,3,4,5", "2", "2,1,1", "4", "5", "6,1,2", "6,1,2,3,4", "7,1,2,3,4,5", "7,1,2,3,4,5,6,7", "8,1,2,3,4,5,6", "8,1,2,3,4,5,6,7,8",
		"9,1,2", "9,1,2,3,4", "12", "12,1,1", "13", "13,1,1",
		"11" + strings.Repeat(",7", 25), "11" + strings.Repeat(",7", 26), "11" + strings.Repeat(",7", 255), "11" + strings.Repeat(",7", 256),
		"3" + strings.Repeat(",7", 257), strings.Repeat(",", 10000), strings.Repeat("11,", 10000),
	}
	for _, text := range texts {
		if got := impl.ParseRequest(text); !isNoRequest(got) {
			t.Errorf("ParseRequest(%q) = %v", text, got)
		}
	}
}

// writtenBytes has how each byte is written, and which byte that is.
func writtenBytes() map[string]byte {
	written := map[string]byte{}
	for number := range 256 {
		written[fmt.Sprint(number)] = byte(number)
	}
	return written
}

func checkText(t *testing.T, written map[string]byte, text string) {
	var body []byte
	right := true
	for _, word := range strings.Split(text, ",") {
		number, known := written[word]
		right = right && known
		body = append(body, number)
	}
	want, readable := requestOfBody(body)
	right = right && readable
	if got := impl.ParseRequest(text); right && !isRequest(got, want) || !right && !isNoRequest(got) {
		t.Errorf("ParseRequest(%q) = %v, not %v (%v)", text, got, want, right)
	}
}

// Every text that is one byte away from a right one is read only if it is right itself.
func TestParseRequestOneByteAway(t *testing.T) {
	written := writtenBytes()
	for _, right := range rightByHand() {
		for place := range len(right.text) + 1 {
			ahead, behind := right.text[:place], right.text[place:]
			for b := range 256 {
				one := string([]byte{byte(b)})
				checkText(t, written, ahead+one+behind)
				if behind != "" {
					checkText(t, written, ahead+one+behind[1:])
				}
			}
			if behind != "" {
				checkText(t, written, ahead+behind[1:])
			}
		}
	}
}

// Every number of up to four digits, with and without zeros ahead, as a kind, as a number and as data.
func TestParseRequestEveryNumber(t *testing.T) {
	written := writtenBytes()
	for number := range 10000 {
		for _, form := range []string{"%d", "%02d", "%03d", "%04d", "%05d"} {
			word := fmt.Sprintf(form, number)
			for _, text := range []string{word, word + ",7", "3," + word, "11," + word, "11,7," + word + ",8", "9,1," + word + ",2"} {
				checkText(t, written, text)
			}
		}
	}
}

// Every kind with every count of numbers near to a right one.
func TestParseRequestCounts(t *testing.T) {
	written := writtenBytes()
	for kind := range 300 {
		for count := range 40 {
			for _, word := range []string{",0", ",7", ",255", ",256"} {
				checkText(t, written, fmt.Sprint(kind)+strings.Repeat(word, count))
			}
		}
	}
}

func TestSameRequestsByHand(t *testing.T) {
	cases := []struct {
		a, b impl.Request
		want bool
	}{
		{impl.Request{}, impl.Request{}, true},
		{impl.Request{}, impl.Request{Args: []int64{}, Data: []byte{}}, true},
		{ask(3, 65), ask(3, 65), true},
		{ask(3, 65), ask(4, 65), false},
		{ask(3, 65), ask(3, 66), false},
		{ask(3, 65), ask(3), false},
		{ask(3, 65), ask(3, 65, 0), false},
		{ask(3, 0), ask(3), false},
		{ask(3, 65), ask(3, 65+256), false},
		{ask(3, 65), ask(3+256, 65), false},
		{ask(3, 65), ask(3, 65+1<<32), false},
		{ask(6, 1, 2, 3), ask(6, 1, 3, 2), false},
		{ask(6, 1, 2, 3), ask(6, 0, 2, 3), false},
		{ask(6, 1, 2, 3), ask(6, 1, 2, 4), false},
		{clip(1, 2), clip(1, 2), true},
		{clip(1, 2), clip(2, 1), false},
		{clip(1, 2), clip(1), false},
		{clip(1, 2), clip(1, 2, 0), false},
		{clip(), clip(0), false},
		{clip(1), ask(11, 1), false},
		{clip(1), impl.Request{Kind: 12, Data: []byte{1}}, false},
		{clip(), ask(10), false},
		// Also those with a fault are the same only if all of them is.
		{ask(99, -1), ask(99, -1), true},
		{ask(99, -1), ask(98, -1), false},
		{ask(0), ask(14), false},
		{clip(countUp(25)...), clip(countUp(25)...), true},
		{clip(countUp(25)...), clip(countUp(26)...), false},
		{ask(math.MinInt64, math.MaxInt64), ask(math.MinInt64, math.MaxInt64), true},
		{ask(math.MinInt64, math.MaxInt64), ask(math.MinInt64, math.MinInt64), false},
	}
	for _, c := range cases {
		if impl.SameRequests(c.a, c.b) != c.want || impl.SameRequests(c.b, c.a) != c.want {
			t.Errorf("SameRequests(%v, %v) is not %v", c.a, c.b, c.want)
		}
	}
}

func TestSameRequestsEverywhere(t *testing.T) {
	all := rightRequests()
	for _, w := range withWrongNumbers() {
		all = append(all, w.request)
	}
	for _, a := range all {
		if !impl.SameRequests(a, cloneRequest(a)) {
			t.Errorf("%v is not the same as itself", a)
		}
		for _, b := range all {
			if got := impl.SameRequests(a, b); got != sameByHand(a, b) {
				t.Errorf("SameRequests(%v, %v) = %v", a, b, got)
			}
		}
	}
}

// What is handed in, and what lies behind it in the same memory, is as it was.
func TestRequestsChangeNoArgument(t *testing.T) {
	for kind := int64(0); kind <= 14; kind++ {
		for argSize := range 10 {
			for _, dataSize := range []int{0, 1, 24, 25} {
				args, data := []int64{9, 8, 7, 6, 5, 4, 3, 2, 1, 0, 255, 256}, countUp(40)
				wasArgs, wasData := slices.Clone(args), slices.Clone(data)
				r := impl.Request{Kind: kind, Args: args[:argSize], Data: data[:dataSize]}
				impl.RequestFault(r)
				impl.PackRequest(r)
				impl.RequestText(r)
				impl.SameRequests(r, r)
				data[0] = byte(kind)
				impl.ReadBody(data[:dataSize])
				impl.ReadBody(data[:argSize])
				data[0] = wasData[0]
				if !slices.Equal(args, wasArgs) || !bytes.Equal(data, wasData) {
					t.Errorf("kind %d, %d, %d: changed to %v, %v", kind, argSize, dataSize, args, data)
				}
			}
		}
	}
}

// overwrite turns all of the answer's memory, also what lies behind its lists.
func overwrite(r impl.Request) {
	for place := range r.Args[:cap(r.Args)] {
		r.Args[:cap(r.Args)][place] = 77
	}
	for place := range r.Data[:cap(r.Data)] {
		r.Data[:cap(r.Data)][place] = 77
	}
}

// What an answer is turned into is seen in no argument and in no other answer, and the other way round.
func TestRequestAnswersAreNew(t *testing.T) {
	for _, r := range rightRequests() {
		was := cloneRequest(r)
		packed := impl.PackRequest(r).Bytes
		wasPacked := slices.Clone(packed)
		body := slices.Clone(packed[1:])
		read := impl.ReadBody(body)
		parsed := impl.ParseRequest(impl.RequestText(r).Text)
		for place := range packed[:cap(packed)] {
			packed[:cap(packed)][place] = 77
		}
		if !sameByHand(r, was) || !bytes.Equal(impl.PackRequest(r).Bytes, wasPacked) {
			t.Fatalf("%v: turned with its bytes", was)
		}
		clear(body)
		if !isRequest(read, was) {
			t.Fatalf("%v: turned with its body, %v", was, read)
		}
		body = slices.Clone(wasPacked[1:])
		again := impl.ReadBody(body)
		overwrite(again.Request)
		if !bytes.Equal(body, wasPacked[1:]) || !isRequest(read, was) || !isRequest(parsed, was) {
			t.Fatalf("%v: turned with another answer, %v, %v, %v", was, body, read, parsed)
		}
		overwrite(parsed.Request)
		if got := impl.ParseRequest(impl.RequestText(r).Text); !isRequest(got, was) {
			t.Fatalf("%v: then %v", was, got)
		}
	}
}

// requestAnswers holds what the functions of the chapter answer at one request, one body and one text.
type requestAnswers struct {
	count        impl.IntResult
	fault        int64
	packed       impl.BytesResult
	read, parsed impl.RequestResult
	same         bool
	text         impl.TextResult
}

func requestAnswersAt(r, other impl.Request, body []byte, text string) requestAnswers {
	return requestAnswers{
		count: impl.ArgsOf(r.Kind), fault: impl.RequestFault(r), packed: impl.PackRequest(r),
		read: impl.ReadBody(body), parsed: impl.ParseRequest(text),
		same: impl.SameRequests(r, other), text: impl.RequestText(r),
	}
}

func sameRequestAnswers(a, b requestAnswers) bool {
	return a.count == b.count && a.fault == b.fault && a.same == b.same && a.text == b.text &&
		a.packed.Code == b.packed.Code && bytes.Equal(a.packed.Bytes, b.packed.Bytes) &&
		a.read.Code == b.read.Code && sameByHand(a.read.Request, b.read.Request) &&
		a.parsed.Code == b.parsed.Code && sameByHand(a.parsed.Request, b.parsed.Request)
}

// Asked again, in another order and with other calls between, every answer is the same.
func TestRequestsKeepNothing(t *testing.T) {
	all := rightRequests()
	for _, w := range wrongRequests() {
		all = append(all, w.request)
	}
	byHand := rightByHand()
	bodies := [][]byte{nil, {3, 65}, {3}, {11, 1, 2}, {10}, {14}, {8, 1, 2, 3, 4, 5, 6, 7}}
	at := func(i int) requestAnswers {
		text := byHand[i%len(byHand)].text
		return requestAnswersAt(all[i], all[(i*7+3)%len(all)], bodies[i%len(bodies)], text[:len(text)-i%2])
	}
	var first []requestAnswers
	for i := range all {
		first = append(first, at(i))
	}
	for i := len(all) - 1; i >= 0; i-- {
		if again := at(i); !sameRequestAnswers(again, first[i]) {
			t.Errorf("at %v: first %v, then %v", all[i], first[i], again)
		}
	}
}
