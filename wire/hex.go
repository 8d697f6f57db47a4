package wire

import "understudy/api"

const letters = "0123456789abcdef"

// Hex is what bytes are spelled, two letters each.
func Hex(b []byte) string {
	text := make([]byte, 0, 2*len(b))
	for _, x := range b {
		text = append(text, letters[x>>4], letters[x&15])
	}
	return string(text)
}

// Unhex is the bytes that a text spells.
func Unhex(s string) ([]byte, api.Errno) {
	b := make([]byte, 0, len(s)/2)
text:
	for at := 0; at+1 < len(s); at += 2 {
		var x byte
		for _, letter := range [2]byte{s[at], s[at+1]} {
			bits, ok := fourBits(letter)
			if !ok {
				break text
			}
			x = x<<4 | bits
		}
		b = append(b, x)
	}
	// A wrong letter and an odd length both leave letters that spell nothing.
	if 2*len(b) != len(s) {
		return nil, api.ErrBytes
	}
	return b, api.OK
}

func fourBits(letter byte) (byte, bool) {
	switch {
	case letter >= '0' && letter <= '9':
		return letter - '0', true
	case letter >= 'a' && letter <= 'f':
		return letter - 'a' + 10, true
	}
	return 0, false
}
