package code

import "cairn/api"

// head is how many bytes of a frame tell the number of those that it is of.
const head = 2

// frameSize tells how many bytes the frame of so many bytes has.
func frameSize(n int) int {
	return (head + n + api.Some - 1) / api.Some * api.Some
}

// frame tells the frame of some bytes.
func frame(data string) []byte {
	out := make([]byte, frameSize(len(data)))
	out[0] = byte(len(data))
	out[1] = byte(len(data) >> 8)
	copy(out[head:], data)
	return out
}

// unframe tells the bytes of which this is the frame, and gives up if it is of none.
func unframe(framed []byte) string {
	if len(framed) < head {
		panic(errFrame)
	}
	n := int(framed[0]) | int(framed[1])<<8
	if n > api.MaxData || frameSize(n) != len(framed) {
		panic(errFrame)
	}
	for _, b := range framed[head+n:] {
		if b != 0 {
			panic(errFrame)
		}
	}
	return string(framed[head : head+n])
}
