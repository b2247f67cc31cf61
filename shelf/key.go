package shelf

import "cairn/api"

// isKey tells whether some bytes are a key. The length comes first, so that no more bytes than a key has are looked at.
func isKey(key string) bool {
	if len(key) < 1 || len(key) > api.MaxName {
		return false
	}
	for i := range len(key) {
		if !isSign(key[i]) {
			return false
		}
	}
	return true
}

// isSign tells whether a key may have a byte.
func isSign(b byte) bool {
	return 'a' <= b && b <= 'z' || '0' <= b && b <= '9'
}
