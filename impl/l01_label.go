package impl

const OK = 0
const ErrForm = 1
const ErrMany = 2
const ErrRange = 3
const ErrNone = 4
const ErrText = 5
const ErrDenied = 6
const ErrFull = 7
const ErrState = 8
const MaxLevel = 3
const AllParts = 15

type IntResult struct {
	Code  int64
	Value int64
}
type IntsResult struct {
	Code int64
	List []int64
}
type BytesResult struct {
	Code  int64
	Bytes []byte
}
type TextResult struct {
	Code int64
	Text string
}
type Label struct {
	Level int64
	Parts int64
}
type LabelResult struct {
	Code  int64
	Label Label
}

// partBits holds Parts once they are known to be in bounds: unsigned, so that no sign meets the bits.
type partBits uint8

// levelStep is how far apart the codes of two levels lie: there is room for every sum of bits between them.
const levelStep = AllParts + 1

const lastCode = MaxLevel*levelStep + AllParts

// partLetters has the letter of the bit 1<<place at each place.
var partLetters = [4]byte{'a', 'b', 'c', 'd'}

func LabelFault(l Label) int64 {
	if l.Level < 0 || l.Level > MaxLevel || l.Parts < 0 || l.Parts > AllParts {
		return ErrRange
	}
	return OK
}

func Dominates(a Label, b Label) bool {
	if faultOfBoth(a, b) != OK || a.Level < b.Level {
		return false
	}
	return bitsOf(b)&^bitsOf(a) == 0
}

func JoinLabels(a Label, b Label) LabelResult {
	if fault := faultOfBoth(a, b); fault != OK {
		return LabelResult{Code: fault}
	}
	return LabelResult{Label: labelWith(max(a.Level, b.Level), bitsOf(a)|bitsOf(b))}
}

func MeetLabels(a Label, b Label) LabelResult {
	if fault := faultOfBoth(a, b); fault != OK {
		return LabelResult{Code: fault}
	}
	return LabelResult{Label: labelWith(min(a.Level, b.Level), bitsOf(a)&bitsOf(b))}
}

func CodeOf(l Label) IntResult {
	if fault := LabelFault(l); fault != OK {
		return IntResult{Code: fault}
	}
	return IntResult{Value: l.Level*levelStep + l.Parts}
}

func LabelOf(code int64) LabelResult {
	if !isLabelCode(code) {
		return LabelResult{Code: ErrRange}
	}
	return LabelResult{Label: Label{Level: code / levelStep, Parts: code % levelStep}}
}

func LabelText(l Label) TextResult {
	if fault := LabelFault(l); fault != OK {
		return TextResult{Code: fault}
	}
	text := []byte{'L', '0' + byte(l.Level)}
	for place, letter := range partLetters {
		if bitsOf(l)&bitAt(place) != 0 {
			text = append(text, '+', letter)
		}
	}
	return TextResult{Text: string(text)}
}

func ParseLabel(text string) LabelResult {
	if len(text) < 2 || text[0] != 'L' || text[1] < '0' || text[1] > '0'+MaxLevel {
		return LabelResult{Code: ErrText}
	}
	bits, whole := readParts(text[2:])
	if !whole {
		return LabelResult{Code: ErrText}
	}
	return LabelResult{Label: labelWith(int64(text[1]-'0'), bits)}
}

func isLabelCode(code int64) bool {
	return code >= 0 && code <= lastCode
}

func faultOfBoth(a Label, b Label) int64 {
	if fault := LabelFault(a); fault != OK {
		return fault
	}
	return LabelFault(b)
}

func bitsOf(l Label) partBits {
	return partBits(l.Parts)
}

func bitAt(place int) partBits {
	return 1 << place
}

func labelWith(level int64, bits partBits) Label {
	return Label{Level: level, Parts: int64(bits)}
}

// readParts asks for each letter once, in the table's order: one that is
// unknown, out of order or there twice is left over, and text is not whole.
func readParts(text string) (partBits, bool) {
	var bits partBits
	for place, letter := range partLetters {
		if len(text) >= 2 && text[0] == '+' && text[1] == letter {
			bits |= bitAt(place)
			text = text[2:]
		}
	}
	return bits, text == ""
}
