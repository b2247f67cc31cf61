package field

import "testing"

// product multiplies as the document words it: the whole polynomial first, then the rest of it.
func product(a, b int) int {
	p := 0
	for i := range 8 {
		if b>>i&1 == 1 {
			p ^= a << i
		}
	}
	for i := 15; i >= 8; i-- {
		if p>>i&1 == 1 {
			p ^= 285 << (i - 8)
		}
	}
	return p
}

func TestMulOfAllPairs(t *testing.T) {
	for a := range 256 {
		for b := range 256 {
			if got, want := int(Mul(byte(a), byte(b))), product(a, b); got != want {
				t.Fatalf("Mul(%d, %d) = %d, want %d", a, b, got, want)
			}
		}
	}
}

func TestInvOfAll(t *testing.T) {
	if got := Inv(0); got != 0 {
		t.Errorf("Inv(0) = %d, want 0", got)
	}
	for a := 1; a < 256; a++ {
		if i := int(Inv(byte(a))); product(a, i) != 1 {
			t.Errorf("Inv(%d) = %d, and their product is %d", a, i, product(a, i))
		}
	}
}
