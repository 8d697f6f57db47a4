package wire_test

import (
	"bytes"
	"fmt"
	"strings"
	"testing"

	"understudy/api"
	"understudy/wire"
)

func TestHexOfEachByte(t *testing.T) {
	var all []byte
	var text strings.Builder
	for i := range 256 {
		b := []byte{byte(i)}
		want := fmt.Sprintf("%02x", i)
		if s := wire.Hex(b); s != want {
			t.Errorf("Hex of %d: %q", i, s)
		}
		if got, e := wire.Unhex(want); e != api.OK || !bytes.Equal(got, b) {
			t.Errorf("Unhex(%q): %v, %d", want, got, e)
		}
		all = append(all, byte(i))
		text.WriteString(want)
	}
	if s := wire.Hex(all); s != text.String() {
		t.Errorf("Hex of all: %q", s)
	}
	if got, e := wire.Unhex(text.String()); e != api.OK || !bytes.Equal(got, all) {
		t.Errorf("Unhex of all: %v, %d", got, e)
	}
}

func TestHexOfNothing(t *testing.T) {
	if s := wire.Hex(nil) + wire.Hex([]byte{}); s != "" {
		t.Errorf("%q", s)
	}
	if b, e := wire.Unhex(""); e != api.OK || len(b) != 0 {
		t.Error(b, e)
	}
}

func refused(t *testing.T, s string) {
	t.Helper()
	if b, e := wire.Unhex(s); e != api.ErrBytes || len(b) != 0 {
		t.Errorf("Unhex(%q): %v, %d", s, b, e)
	}
}

func TestUnhexRefusesOddLengths(t *testing.T) {
	for _, s := range []string{"0", "a", "012", "00ab0", strings.Repeat("f", 1001), "g", "00g", "é0"} {
		refused(t, s)
	}
}

func TestUnhexRefusesEachOtherLetter(t *testing.T) {
	for i := range 256 {
		letter := string([]byte{byte(i)})
		if strings.Contains("0123456789abcdef", letter) {
			continue
		}
		for _, s := range []string{letter + "0", "0" + letter, letter + letter, "00" + letter + "0", "000" + letter + "00", "0000" + letter + "1"} {
			refused(t, s)
		}
	}
}

func TestUnhexRefusesOtherSpellings(t *testing.T) {
	for _, s := range []string{"0A", "AB", "aB", "0x", "0x00", " 00 ", "00 1", "+1", "-1", "00\n\n", "é", "٠٠"} {
		refused(t, s)
	}
}
