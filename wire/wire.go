// Package wire is layer 1: numbers and texts as bytes; see shared/doc/01-wire.md.
package wire

import "strings"

// longest is how many bytes a number of 64 bits takes at most.
const longest = 10

const digits = "0123456789abcdef"

// Reader takes what was laid.
type Reader struct {
	rest string
	made bool // a reader of no bytes must differ from one that no call made
}

func New(s string) *Reader { return &Reader{rest: s, made: true} }

// open tells what is left, and hands out the one method value by which each
// call takes of it, so that no call has to ask for itself whether there is a
// reader: of none nothing is left, and cut is nil.
func (r *Reader) open() (left string, cut func(n int) string) {
	if r == nil || !r.made {
		return "", nil
	}
	return r.rest, r.cut
}

// cut relies on its callers, who have held n against what is left: a call
// that is refused must not come as far as this.
func (r *Reader) cut(n int) string {
	s := r.rest[:n]
	r.rest = r.rest[n:]
	return s
}

func (r *Reader) Byte() (byte, bool) {
	left, cut := r.open()
	if left == "" {
		return 0, false
	}
	return cut(1)[0], true
}

func (r *Reader) Number() (uint64, bool) {
	left, cut := r.open()
	v, size := number(left)
	if size == 0 {
		return 0, false
	}
	cut(size)
	return v, true
}

func (r *Reader) Text(most int) (string, bool) {
	left, cut := r.open()
	v, size := number(left)
	if size == 0 || most < 0 {
		return "", false
	}
	// Held against one another as uint64: a length of 2^63 and more would be
	// below 0 as an int.
	if v > uint64(most) || v > uint64(len(left)-size) {
		return "", false
	}
	cut(size)
	return strings.Clone(cut(int(v))), true
}

func (r *Reader) Take(n int) (string, bool) {
	left, cut := r.open()
	if cut == nil || n < 0 || n > len(left) {
		return "", false
	}
	return strings.Clone(cut(n)), true
}

func (r *Reader) Left() int {
	left, _ := r.open()
	return len(left)
}

// number tells the number that s begins with, and how many bytes it takes;
// none, if s begins with no number's bytes.
func number(s string) (v uint64, size int) {
	var sum uint64
groups:
	for i := range min(len(s), longest) {
		b := s[i]
		sum |= uint64(b&0x7f) << (7 * i)
		switch {
		case b >= 0x80:
			continue groups
		case i > 0 && b == 0: // fewer bytes would have told the same
			break groups
		case i == longest-1 && b > 1: // 64 bits have no room for it
			break groups
		}
		return sum, i + 1
	}
	return 0, 0
}

func PutByte(b string, v byte) string {
	return string(append(behind(b, 1), v))
}

func PutNumber(b string, v uint64) string {
	return string(layNumber(behind(b, longest), v))
}

func PutText(b, s string) string {
	out := layNumber(behind(b, longest+len(s)), uint64(len(s)))
	return string(append(out, s...))
}

// behind makes the room at once: b may be long, and is not to be copied
// again while it grows.
func behind(b string, more int) []byte {
	return append(make([]byte, 0, len(b)+more), b...)
}

func layNumber(out []byte, v uint64) []byte {
	for v >= 0x80 {
		out = append(out, byte(v)|0x80)
		v >>= 7
	}
	return append(out, byte(v))
}

func Hex(s string) string {
	out := make([]byte, 0, 2*len(s))
	for i := range len(s) {
		out = append(out, digits[s[i]>>4], digits[s[i]&0xf])
	}
	return string(out)
}

func Unhex(s string) (string, bool) {
	if len(s)%2 != 0 {
		return "", false
	}
	out := make([]byte, 0, len(s)/2)
	for i := 0; i < len(s); i += 2 {
		high, low := strings.IndexByte(digits, s[i]), strings.IndexByte(digits, s[i+1])
		if high < 0 || low < 0 {
			return "", false
		}
		out = append(out, byte(high<<4|low))
	}
	return string(out), true
}
