package code

import "cairn/field"

// points are some shards, as many bytes each, and the places that they have among the nine. Their k-th bytes are values, at these places, of one polynomial.
type points struct {
	places []byte
	shards []string
}

// add takes one more shard.
func (p *points) add(place byte, shard string) {
	p.places = append(p.places, place)
	p.shards = append(p.shards, shard)
}

// at tells the shard at a place: the values there of the polynomials of the least degree through the points.
func (p points) at(place byte) string {
	out := make([]byte, len(p.shards[0]))
	for i, shard := range p.shards {
		weight := p.weight(i, place)
		for k := range out {
			out[k] ^= field.Mul(shard[k], weight)
		}
	}
	return string(out)
}

// weight tells how often point i goes into the value at a place (by Lagrange).
func (p points) weight(i int, place byte) byte {
	above, below := byte(1), byte(1)
	for k, other := range p.places {
		if k != i {
			above = field.Mul(above, place^other)
			below = field.Mul(below, p.places[i]^other)
		}
	}
	return field.Mul(above, field.Inv(below))
}
