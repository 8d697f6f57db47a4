package crc

// A register is a remainder of the polynomial, its bits turned round: the highest one weighs 1, the one below it x, the lowest one x^31. A step of it is a product by x.
const (
	polynomial = 0x82F63B78
	highest    = 31
	zeroByte   = uint32(1) << (highest - 8) // x^8: what a byte 0 multiplies a register by
)

// Zeros is the sum of bytes whose sum is sum, and n bytes 0 behind them.
func Zeros(sum uint32, n int) uint32 {
	return ^pass(^sum, n)
}

// Join is the sum of bytes whose sum is a, and n bytes behind them whose sum is b.
func Join(a, b uint32, n int) uint32 {
	// Both sums' ones, at the beginning and at the end, cancel each other out.
	return pass(a, n) ^ b
}

// pass is r behind n bytes 0. It goes over n's bits, not over n, which may be any number.
func pass(r uint32, n int) uint32 {
	t := products(zeroByte)
	for n > 0 {
		if n&1 == 1 {
			r = times(t, r)
		}
		t = square(t)
		n >>= 1
	}
	return r
}

// products is the table of y: y times what each bit of a register weighs.
func products(y uint32) [32]uint32 {
	var t [32]uint32
	for i := range t {
		t[highest-i] = y
		y = step(y)
	}
	return t
}

// square is the table of y times y, t being that of y, which is its product by 1.
func square(t [32]uint32) [32]uint32 {
	return products(times(t, t[highest]))
}

// times is y times r, t being the table of y.
func times(t [32]uint32, r uint32) uint32 {
	var product uint32
	for _, y := range t {
		// All ones where r has the bit, else none.
		mask := -(r & 1)
		product ^= y & mask
		r >>= 1
	}
	return product
}

func step(r uint32) uint32 {
	mask := -(r & 1)
	r >>= 1
	r ^= polynomial & mask
	return r
}
