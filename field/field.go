// Package field: bytes as the elements of a field of 256.
package field

// modulus is x^8 + x^4 + x^3 + x^2 + 1: of each product the rest by it is taken.
const modulus = 285

// Mul tells the product. It is the sooner done the less b is.
func Mul(a, b byte) byte {
	product := byte(0)
	for b > 0 {
		if b&1 == 1 {
			product ^= a
		}
		a = double(a)
		b >>= 1
	}
	return product
}

// double tells the product with x.
func double(a byte) byte {
	twice := uint(a) << 1
	if twice > 255 {
		twice ^= modulus
	}
	return byte(twice)
}

// Inv tells the inverse, and 0 for 0, which has none.
func Inv(a byte) byte {
	// The power 255 of each byte but 0 is 1, so its power 254 is the inverse; and 254 is 2 + 4 + .. + 128.
	square, power := a, byte(1)
	for range 7 {
		square = Mul(square, square)
		power = Mul(power, square)
	}
	return power
}
