package crc_test

import (
	"bytes"
	"hash/crc32"
	"math"
	"math/rand/v2"
	"testing"
	"time"

	"understudy/crc"
)

// register is the chapter's sum, word by word: a register of 32 ones, bit by bit.
func register(b []byte) uint32 {
	r := uint32(0xFFFFFFFF)
	for _, x := range b {
		for bit := range 8 {
			unlike := r&1 != uint32(x>>bit)&1
			r >>= 1
			if unlike {
				r ^= 0x82F63B78
			}
		}
	}
	return ^r
}

func anyBytes(rnd *rand.Rand, n int) []byte {
	b := make([]byte, n)
	for i := range b {
		b[i] = byte(rnd.Uint64())
	}
	return b
}

// anySums are sums that were told of nothing, of all bits and of some.
func anySums(rnd *rand.Rand) []uint32 {
	sums := []uint32{0, 1, 7, 1 << 31, math.MaxUint32, math.MaxUint32 - 1, 0x82F63B78}
	for range 20 {
		sums = append(sums, rnd.Uint32())
	}
	return sums
}

// Promise P2.1.

func TestSumOfKnownTexts(t *testing.T) {
	up, down := make([]byte, 32), make([]byte, 32)
	for i := range 32 {
		up[i], down[i] = byte(i), byte(31-i)
	}
	command := []byte{ // a read command, from RFC 3720, B.4
		0x01, 0xc0, 0, 0, 0, 0, 0, 0, 0, 0, 0, 0, 0, 0, 0, 0, 0x14, 0, 0, 0, 0, 0, 0x04, 0,
		0, 0, 0, 0x14, 0, 0, 0, 0x18, 0x28, 0, 0, 0, 0, 0, 0, 0, 0x02, 0, 0, 0, 0, 0, 0, 0,
	}
	for i, x := range []struct {
		b    []byte
		want uint32
	}{
		{nil, 0},
		{[]byte{}, 0},
		{[]byte("a"), 3251651376},
		{[]byte("123456789"), 3808858755},
		{make([]byte, 4), 1214729159},
		{make([]byte, 32), 0x8A9136AA},
		{bytes.Repeat([]byte{255}, 32), 0x62A8AB43},
		{up, 0x46DD794E},
		{down, 0x113FDB5C},
		{command, 0xD9963A56},
	} {
		if got := crc.Sum(x.b); got != x.want {
			t.Errorf("%d: %08x, want %08x", i, got, x.want)
		}
	}
}

func TestSumOfEachByte(t *testing.T) {
	var all []byte
	for i := range 256 {
		b := []byte{byte(i)}
		all = append(all, b...)
		if got, want := crc.Sum(b), register(b); got != want {
			t.Errorf("byte %d: %08x, want %08x", i, got, want)
		}
	}
	if got, want := crc.Sum(all), register(all); got != want {
		t.Errorf("all: %08x, want %08x", got, want)
	}
}

func TestSumOfAnyText(t *testing.T) {
	rnd := rand.New(rand.NewPCG(1, 2))
	castagnoli := crc32.MakeTable(crc32.Castagnoli)
	for n := range 300 {
		b := anyBytes(rnd, n)
		if got, want := crc.Sum(b), register(b); got != want {
			t.Errorf("%d bytes: %08x, want %08x", n, got, want)
		}
	}
	for _, n := range []int{1023, 1024, 1025, 65535, 65536, 65537, 1 << 20} {
		b := anyBytes(rnd, n)
		if got, want := crc.Sum(b), crc32.Checksum(b, castagnoli); got != want {
			t.Errorf("%d bytes: %08x, want %08x", n, got, want)
		}
	}
}

func TestSumOfLists(t *testing.T) {
	if got := crc.Sum(); got != 0 {
		t.Errorf("no lists: %d", got)
	}
	text := []byte("123456789")
	for i, l := range [][][]byte{
		nil,
		{},
		{nil},
		{{}},
		{nil, {}, nil},
		{text},
		{nil, text},
		{text, nil},
		{{}, text[:3], nil, {}, text[3:3], text[3:], {}},
		{text[:1], text[1:2], text[2:3], text[3:4], text[4:5], text[5:6], text[6:7], text[7:8], text[8:]},
		{text, text, text},
		{{0}, {0, 0}, {}, {0}},
		make([][]byte, 1000),
	} {
		if got, want := crc.Sum(l...), register(bytes.Join(l, nil)); got != want {
			t.Errorf("%d: %08x, want %08x", i, got, want)
		}
	}
	if crc.Sum(text[:4], text[4:]) == crc.Sum(text[4:], text[:4]) {
		t.Error("the order of the lists is not seen")
	}
}

func TestSumOfListsCutAnywhere(t *testing.T) {
	rnd := rand.New(rand.NewPCG(3, 4))
	for range 500 {
		b := anyBytes(rnd, rnd.IntN(200))
		var l [][]byte
		for at := 0; at < len(b) || rnd.IntN(3) == 0; {
			size := rnd.IntN(min(40, len(b)-at) + 1)
			l = append(l, b[at:at+size])
			at += size
		}
		if got, want := crc.Sum(l...), register(b); got != want {
			t.Fatalf("%d bytes in %d lists: %08x, want %08x", len(b), len(l), got, want)
		}
	}
}

func TestWhatIsHandedInStays(t *testing.T) {
	text := []byte("123456789")
	l := [][]byte{text[:2], nil, text[2:5]}
	crc.Sum(l...)
	crc.More(5, text)
	crc.Holds(text, 5)
	if string(text) != "123456789" || string(l[0]) != "12" || l[1] != nil || string(l[2]) != "345" {
		t.Errorf("%q, %q", text, l)
	}
}

// Promise P2.2.

func TestMore(t *testing.T) {
	if got := crc.More(crc.Sum([]byte("12345")), []byte("6789")); got != 3808858755 {
		t.Errorf("the chapter's example: %d", got)
	}
	if got := crc.More(0, []byte("a")); got != 3251651376 {
		t.Errorf("behind nothing: %d", got)
	}
	rnd := rand.New(rand.NewPCG(5, 6))
	castagnoli := crc32.MakeTable(crc32.Castagnoli)
	for _, sum := range anySums(rnd) {
		if got := crc.More(sum, nil) ^ crc.More(sum, []byte{}); got != 0 || crc.More(sum, nil) != sum {
			t.Errorf("nothing behind %08x: %08x", sum, crc.More(sum, nil))
		}
		for _, n := range []int{1, 2, 3, 4, 5, 31, 256, 1024} {
			b := anyBytes(rnd, n)
			if got, want := crc.More(sum, b), crc32.Update(sum, castagnoli, b); got != want {
				t.Errorf("%d bytes behind %08x: %08x, want %08x", n, sum, got, want)
			}
		}
	}
}

func TestZeros(t *testing.T) {
	if got := crc.Zeros(0, 4); got != 1214729159 {
		t.Errorf("the chapter's example: %d", got)
	}
	rnd := rand.New(rand.NewPCG(7, 8))
	for _, sum := range anySums(rnd) {
		want := sum
		for n := range 300 {
			if got := crc.Zeros(sum, n); got != want {
				t.Fatalf("%d behind %08x: %08x, want %08x", n, sum, got, want)
			}
			want = crc.More(want, []byte{0})
		}
	}
	for _, n := range []int{1023, 1024, 65535, 65536, 65537, 1<<20 + 1, 1 << 24} {
		sum := rnd.Uint32()
		if got, want := crc.Zeros(sum, n), crc.More(sum, make([]byte, n)); got != want {
			t.Errorf("%d behind %08x: %08x, want %08x", n, sum, got, want)
		}
	}
}

func TestZerosOfNoneAndFewer(t *testing.T) {
	soon(t, func() {
		for _, sum := range anySums(rand.New(rand.NewPCG(9, 10))) {
			for _, n := range []int{0, -1, -2, -7, -8, -1024, math.MinInt32, math.MinInt + 1, math.MinInt} {
				if got := crc.Zeros(sum, n); got != sum {
					t.Errorf("%d behind %08x: %08x", n, sum, got)
				}
			}
		}
	})
	if got := crc.Zeros(7, -1); got != 7 {
		t.Errorf("the chapter's example: %d", got)
	}
}

// round is after how many bits 0 each register comes again, and so after how many bytes: it is odd.
const round = 1<<31 - 1

func TestZerosOfGreatNumbers(t *testing.T) {
	soon(t, func() {
		rnd := rand.New(rand.NewPCG(11, 12))
		for _, sum := range anySums(rnd) {
			for _, n := range []int{round - 1, round, math.MaxInt, math.MaxInt - 1, math.MaxInt/2 + 1, math.MaxInt / 3} {
				want := crc.Zeros(sum, n%round)
				if got := crc.Zeros(sum, n); got != want {
					t.Errorf("%d behind %08x: %08x, want %08x", n, sum, got, want)
				}
			}
			left := math.MaxInt % round // 1 where an int has 64 bits
			if got, want := crc.Zeros(sum, math.MaxInt), crc.More(sum, make([]byte, left)); got != want {
				t.Errorf("the greatest number: %08x, want %08x", got, want)
			}
			n := rnd.Int()
			m := rnd.IntN(math.MaxInt - n)
			if got, want := crc.Zeros(crc.Zeros(sum, n), m), crc.Zeros(sum, n+m); got != want {
				t.Errorf("%d, then %d: %08x, want %08x", n, m, got, want)
			}
		}
	})
}

// soon fails where f has not ended long after it should have.
func soon(t *testing.T, f func()) {
	t.Helper()
	done := make(chan struct{})
	go func() {
		defer close(done)
		f()
	}()
	select {
	case <-done:
	case <-time.After(20 * time.Second):
		t.Fatal("it does not end soon")
	}
}

// Promise P2.3.

func TestJoin(t *testing.T) {
	if got := crc.Join(crc.Sum([]byte("1234")), crc.Sum([]byte("56789")), 5); got != 3808858755 {
		t.Errorf("the chapter's example: %d", got)
	}
	text := []byte("123456789")
	for cut := range len(text) + 1 {
		a, b := text[:cut], text[cut:]
		if got := crc.Join(crc.Sum(a), crc.Sum(b), len(b)); got != 3808858755 {
			t.Errorf("cut at %d: %08x", cut, got)
		}
	}
	if crc.Join(crc.Sum(text[:4]), crc.Sum(text[4:]), 5) == crc.Join(crc.Sum(text[4:]), crc.Sum(text[:4]), 5) {
		t.Error("which one is ahead is not seen")
	}
}

func TestJoinOfNoBytes(t *testing.T) {
	soon(t, func() {
		sums := anySums(rand.New(rand.NewPCG(13, 14)))
		for _, a := range sums {
			for _, b := range sums {
				for _, n := range []int{0, -1, -9, math.MinInt32, math.MinInt} {
					if got := crc.Join(a, b, n); got != a^b {
						t.Errorf("Join(%d, %d, %d): %d, want %d", a, b, n, got, a^b)
					}
				}
			}
		}
	})
	if crc.Join(9, 0, 0) != 9 || crc.Join(9, 5, 0) != 12 || crc.Join(0, 9, 0) != 9 {
		t.Error(crc.Join(9, 0, 0), crc.Join(9, 5, 0), crc.Join(0, 9, 0))
	}
}

// TestJoinOfAnySums: where no n bytes have that sum, too, b counts as it stands.
func TestJoinOfAnySums(t *testing.T) {
	rnd := rand.New(rand.NewPCG(15, 16))
	for _, a := range anySums(rnd) {
		for _, b := range anySums(rnd) {
			n := rnd.IntN(50)
			c := anyBytes(rnd, n)
			want := crc.More(a, c) ^ crc.Sum(c) ^ b
			if got := crc.Join(a, b, n); got != want {
				t.Fatalf("Join(%d, %d, %d): %d, want %d", a, b, n, got, want)
			}
		}
	}
}

func TestJoinOfGreatNumbers(t *testing.T) {
	soon(t, func() {
		rnd := rand.New(rand.NewPCG(17, 18))
		for _, a := range anySums(rnd) {
			for _, n := range []int{math.MaxInt, math.MaxInt - 1, round, round + 1, math.MaxInt / 3} {
				// n bytes 0, and their sum
				if got, want := crc.Join(a, crc.Zeros(0, n), n), crc.Zeros(a, n); got != want {
					t.Errorf("Join(%d, .., %d): %d, want %d", a, n, got, want)
				}
				b := rnd.Uint32()
				if got, want := crc.Join(a, b, n), crc.Join(a, b, n%round); got != want {
					t.Errorf("Join(%d, %d, %d): %d, want %d", a, b, n, got, want)
				}
			}
		}
	})
}

func TestHolds(t *testing.T) {
	rnd := rand.New(rand.NewPCG(19, 20))
	for _, b := range [][]byte{nil, {}, {0}, []byte("a"), []byte("123456789"), anyBytes(rnd, 1024)} {
		sum := register(b)
		if !crc.Holds(b, sum) {
			t.Errorf("%d bytes: %08x is their sum", len(b), sum)
		}
		for bit := range 32 {
			if crc.Holds(b, sum^1<<bit) {
				t.Errorf("%d bytes: %08x is not their sum", len(b), sum^1<<bit)
			}
		}
		if crc.Holds(b, ^sum) || crc.Holds(b, sum+1) || crc.Holds(b, sum-1) {
			t.Errorf("%d bytes: another sum", len(b))
		}
		if crc.Holds(append([]byte{0}, b...), sum) || crc.Holds(append(bytes.Clone(b), 0), sum) {
			t.Errorf("%d bytes: a byte more", len(b))
		}
	}
	if !crc.Holds([]byte("123456789"), 3808858755) || crc.Holds([]byte("123456788"), 3808858755) {
		t.Error("the chapter's example")
	}
	if !crc.Holds(nil, 0) || crc.Holds(nil, 1) || crc.Holds(nil, math.MaxUint32) {
		t.Error("no bytes")
	}
}
