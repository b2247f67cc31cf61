package shelf

import "container/heap"

// Largest tells the live keys of the n largest blobs, the largest first, of those of one size the least key.
func (s *Shelf) Largest(n int) []string {
	var left largestFirst
	for _, e := range s.entries {
		if !e.dead {
			heap.Push(&left, e)
		}
	}
	var out []string
	for len(out) < n && len(left) > 0 {
		out = append(out, heap.Pop(&left).(entry).key)
	}
	return out
}

// largestFirst is a heap of entries.
type largestFirst []entry

func (l largestFirst) Len() int { return len(l) }

func (l largestFirst) Less(i, j int) bool {
	if len(l[i].blob) != len(l[j].blob) {
		return len(l[i].blob) > len(l[j].blob)
	}
	return l[i].key < l[j].key
}

func (l largestFirst) Swap(i, j int) { l[i], l[j] = l[j], l[i] }

func (l *largestFirst) Push(x any) { *l = append(*l, x.(entry)) }

func (l *largestFirst) Pop() any {
	last := len(*l) - 1
	out := (*l)[last]
	*l = (*l)[:last]
	return out
}
