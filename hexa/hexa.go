// Package hexa is layer 1: see shared/doc/01-hexa.md.
package hexa

import "diptych/api"

const (
	alphabet   = "0123456789abcdef"
	narrowSize = 20
	wideSize   = 32
	leastShort = 4
	mostShort  = 64 // the digits of a whole Wide name
)

// Digits: of bytes.
func Digits(b string) string {
	out := make([]byte, 2*len(b))
	for i := range len(out) {
		out[i] = digit(b, i)
	}
	return string(out)
}

// Bytes: of digits.
func Bytes(s string) (string, api.Errno) {
	if len(s)%2 != 0 {
		return "", api.ErrForm
	}
	out := make([]byte, len(s)/2)
	for i := range len(out) {
		high, highOK := worth(s[2*i])
		low, lowOK := worth(s[2*i+1])
		if !highOK || !lowOK {
			return "", api.ErrForm
		}
		out[i] = high<<4 | low
	}
	return string(out), api.OK
}

// Size: how many bytes the names of a space have.
func Size(space int) int {
	switch space {
	case api.Narrow:
		return narrowSize
	case api.Wide:
		return wideSize
	}
	return 0
}

// Space: of a name's bytes.
func Space(b string) int {
	switch len(b) {
	case narrowSize:
		return api.Narrow
	case wideSize:
		return api.Wide
	}
	return 0
}

// Short: is it a beginning?
func Short(s string) api.Errno {
	if len(s) < leastShort || len(s) > mostShort {
		return api.ErrRange
	}
	for i := range len(s) {
		if _, ok := worth(s[i]); !ok {
			return api.ErrForm
		}
	}
	return api.OK
}

// Begins: does a name begin so?
func Begins(b, short string) bool {
	if len(short) > 2*len(b) {
		return false
	}
	for i := range len(short) {
		if digit(b, i) != short[i] {
			return false
		}
	}
	return true
}

// Find: the one that begins so.
func Find(l []string, short string) (string, api.Errno) {
	if e := Short(short); e != api.OK {
		return "", e
	}
	// A place, not the text, since it tells "none yet" apart from any name.
	found := -1
	for i := range len(l) {
		if !Begins(l[i], short) {
			continue
		}
		if found >= 0 && l[i] != l[found] {
			return "", api.ErrMany
		}
		found = i
	}
	if found < 0 {
		return "", api.ErrNone
	}
	return l[found], api.OK
}

// Least: how many digits tell a name from others.
func Least(l []string, b string) int {
	need := leastShort
	for _, x := range l {
		if x != b {
			need = max(need, alike(x, b)+1)
		}
	}
	// One that goes on where b ends asks for a digit more than b has.
	return max(leastShort, min(need, 2*len(b)))
}

// alike: with how many digits the two begin that are the same.
func alike(a, b string) int {
	both := 2 * min(len(a), len(b))
	for i := range both {
		if digit(a, i) != digit(b, i) {
			return i
		}
	}
	return both
}

// digit: the one at place i of the digits of b.
func digit(b string, i int) byte {
	if i%2 == 0 {
		return alphabet[b[i/2]>>4]
	}
	return alphabet[b[i/2]&15]
}

// worth: the four bits of a digit; is it one?
func worth(c byte) (byte, bool) {
	switch {
	case '0' <= c && c <= '9':
		return c - '0', true
	case 'a' <= c && c <= 'f':
		return c - 'a' + 10, true
	}
	return 0, false
}
