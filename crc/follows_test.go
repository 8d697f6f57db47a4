package crc_test

import (
	"bytes"
	"math/bits"
	"math/rand/v2"
	"slices"
	"testing"

	"understudy/crc"
)

// Promise P2.4.

const longest = 1 << 16 // bytes of a text of which it is promised what differs

func TestPiecesAreTheWhole(t *testing.T) {
	rnd := rand.New(rand.NewPCG(21, 22))
	sizes := []int{0, 1, 2, 3, 8, 255, 256, 1024, 5000}
	for _, n := range sizes {
		for _, m := range sizes {
			a, b := anyBytes(rnd, n), anyBytes(rnd, m)
			whole := register(slices.Concat(a, b))
			if got := crc.Sum(a, b); got != whole {
				t.Errorf("Sum of %d and %d bytes: %08x, want %08x", n, m, got, whole)
			}
			if got := crc.More(crc.Sum(a), b); got != whole {
				t.Errorf("More of %d and %d bytes: %08x, want %08x", n, m, got, whole)
			}
			if got := crc.Join(crc.Sum(a), crc.Sum(b), m); got != whole {
				t.Errorf("Join of %d and %d bytes: %08x, want %08x", n, m, got, whole)
			}
			if got, want := crc.Zeros(crc.Sum(a), m), register(slices.Concat(a, make([]byte, m))); got != want {
				t.Errorf("Zeros of %d and %d bytes: %08x, want %08x", n, m, got, want)
			}
		}
	}
}

func TestManyPiecesAreTheWhole(t *testing.T) {
	rnd := rand.New(rand.NewPCG(23, 24))
	for range 300 {
		var all []byte
		var more, join uint32
		for range rnd.IntN(9) {
			b := anyBytes(rnd, rnd.IntN(60))
			all = append(all, b...)
			more = crc.More(more, b)
			join = crc.Join(join, crc.Sum(b), len(b))
		}
		if want := register(all); more != want || join != want {
			t.Fatalf("%d bytes: %08x, %08x, want %08x", len(all), more, join, want)
		}
	}
}

// TestJoinIsTheSameFromBothEnds: it makes no odds which pieces are put together first.
func TestJoinIsTheSameFromBothEnds(t *testing.T) {
	rnd := rand.New(rand.NewPCG(25, 26))
	for range 500 {
		a, b, c := rnd.Uint32(), rnd.Uint32(), rnd.Uint32()
		m, n := rnd.IntN(1<<40), rnd.IntN(1<<40)
		left := crc.Join(crc.Join(a, b, m), c, n)
		right := crc.Join(a, crc.Join(b, c, n), m+n)
		if left != right {
			t.Fatalf("%d, %d, %d, %d, %d: %08x, %08x", a, b, c, m, n, left, right)
		}
	}
}

func TestThreePiecesXored(t *testing.T) {
	rnd := rand.New(rand.NewPCG(27, 28))
	for _, n := range []int{0, 1, 2, 3, 4, 5, 9, 255, 1024, 4097, longest} {
		a, b, c := anyBytes(rnd, n), anyBytes(rnd, n), anyBytes(rnd, n)
		xored := make([]byte, n)
		for i := range xored {
			xored[i] = a[i] ^ b[i] ^ c[i]
		}
		if got, want := crc.Sum(a)^crc.Sum(b)^crc.Sum(c), crc.Sum(xored); got != want {
			t.Errorf("%d bytes: %08x, want %08x", n, got, want)
		}
	}
}

func turn(b []byte, bit int) {
	b[bit/8] ^= 1 << (bit % 8)
}

// TestOneToThreeBitsOfAShortText goes over all of them.
func TestOneToThreeBitsOfAShortText(t *testing.T) {
	text := []byte("123456789")
	sum := crc.Sum(text)
	differs := func(l ...int) {
		if crc.Sum(text) == sum {
			t.Errorf("bits %v", l)
		}
	}
	all := 8 * len(text)
	for i := range all {
		turn(text, i)
		differs(i)
		for j := range i {
			turn(text, j)
			differs(i, j)
			for k := range j {
				turn(text, k)
				differs(i, j, k)
				turn(text, k)
			}
			turn(text, j)
		}
		turn(text, i)
	}
	if crc.Sum(text) != sum {
		t.Error("the text is not itself again")
	}
}

func TestSomeBitsOfALongText(t *testing.T) {
	rnd := rand.New(rand.NewPCG(29, 30))
	text := anyBytes(rnd, longest)
	sum := crc.Sum(text)
	ends := []int{0, 1, 7, 8, 31, 32, 8*longest - 33, 8*longest - 32, 8*longest - 8, 8*longest - 1}
	for range 100 {
		l := []int{rnd.IntN(8 * longest), ends[rnd.IntN(len(ends))], rnd.IntN(8 * longest)}[:1+rnd.IntN(3)]
		slices.Sort(l)
		l = slices.Compact(l)
		for _, bit := range l {
			turn(text, bit)
		}
		if crc.Sum(text) == sum || crc.Holds(text, sum) {
			t.Errorf("bits %v", l)
		}
		for _, bit := range l {
			turn(text, bit)
		}
	}
}

// marks is what each bit that is turned does to the sum, by how many bits are behind it, in texts of at most so many bytes. As three pieces xored are what they are, it is the same whatever the text is, and what several bits do is their marks xored.
func marks(most int) []uint32 {
	l := make([]uint32, 0, 8*most)
	var with [8]uint32
	for bit := range with {
		with[bit] = crc.Sum([]byte{1 << bit})
	}
	without := crc.Sum([]byte{0})
	zero := []byte{0}
	for range most {
		for bit := 7; bit >= 0; bit-- { // the lowest bit is taken first, so the highest one has the fewest behind it
			l = append(l, with[bit]^without)
			with[bit] = crc.More(with[bit], zero)
		}
		without = crc.More(without, zero)
	}
	return l
}

// TestOneToThreeBitsOfAnyText: no mark is 0, no two are alike, and each has an odd number of bits, so that three of them never make 0.
func TestOneToThreeBitsOfAnyText(t *testing.T) {
	l := marks(longest)
	for behind, mark := range l {
		if bits.OnesCount32(mark)%2 != 1 {
			t.Fatalf("%d bits behind it: %08x", behind, mark)
		}
	}
	slices.Sort(l)
	if alike := len(l) - len(slices.Compact(l)); alike != 0 {
		t.Errorf("%d marks are alike", alike)
	}
}

func TestMarksAreWhatBitsDo(t *testing.T) {
	rnd := rand.New(rand.NewPCG(31, 32))
	l := marks(200)
	for range 2000 {
		text := anyBytes(rnd, 1+rnd.IntN(200))
		bit := rnd.IntN(8 * len(text))
		sum := crc.Sum(text)
		turn(text, bit)
		if got, want := sum^crc.Sum(text), l[8*len(text)-1-bit]; got != want {
			t.Fatalf("bit %d of %d bytes: %08x, want %08x", bit, len(text), got, want)
		}
	}
}

// TestBurstsOfAnyText: of 32 marks that follow each other none is made of others, so no burst makes 0.
func TestBurstsOfAnyText(t *testing.T) {
	l := marks(longest)
	for from := 0; from+32 <= len(l); from += 7 {
		burst(t, l[from:from+32])
	}
	burst(t, l[len(l)-32:])
}

func burst(t *testing.T, l []uint32) {
	t.Helper()
	var byHighest [33]uint32 // marks by where their highest bit is
	for _, mark := range l {
		for mark != 0 && byHighest[bits.Len32(mark)] != 0 {
			mark ^= byHighest[bits.Len32(mark)]
		}
		if mark == 0 {
			t.Fatalf("a burst that is not seen, among %08x", l)
		}
		byHighest[bits.Len32(mark)] = mark
	}
}

func TestSomeBursts(t *testing.T) {
	rnd := rand.New(rand.NewPCG(33, 34))
	for range 20000 {
		text := anyBytes(rnd, 1+rnd.IntN(64))
		was := bytes.Clone(text)
		from := rnd.IntN(8 * len(text))
		pattern := rnd.Uint32() | 1
		for i := range min(32, 8*len(text)-from) {
			if pattern>>i&1 == 1 {
				turn(text, from+i)
			}
		}
		if crc.Sum(text) == crc.Sum(was) {
			t.Fatalf("%x and %x", was, text)
		}
	}
}
