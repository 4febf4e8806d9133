package pattern

// heap holds things such that none is ahead of the one above it, and so none of the one at the place 0, above which nothing stands. Above the place i is the place (i-1)/2.
type heap[T any] struct {
	items []T
	ahead func(x, y T) bool
	moved func(x T, at int) // is told where a thing stands from now on
}

func (h *heap[T]) push(x T) {
	h.items = append(h.items, x)
	h.mend(len(h.items) - 1)
}

// pop takes out the one at the place 0, which there must be.
func (h *heap[T]) pop() T {
	first, last := h.items[0], len(h.items)-1
	h.items[0] = h.items[last]
	clear(h.items[last:]) // or the room behind the end would hold on to it
	h.items = h.items[:last]
	if last > 0 {
		h.mend(0)
	}
	return first
}

// mend puts the thing at a place where it belongs, if that is another one now.
func (h *heap[T]) mend(at int) {
	x := h.items[at]
	h.put(x, h.sink(x, h.rise(x, at)))
}

// rise: how far towards the place 0 a thing belongs; those that it goes ahead of make way.
func (h *heap[T]) rise(x T, at int) int {
	for at > 0 {
		above := (at - 1) / 2
		if !h.ahead(x, h.items[above]) {
			break
		}
		h.put(h.items[above], at)
		at = above
	}
	return at
}

// sink: how far towards the end a thing belongs; those that go ahead of it make way.
func (h *heap[T]) sink(x T, at int) int {
	for {
		below := 2*at + 1
		if below+1 < len(h.items) && h.ahead(h.items[below+1], h.items[below]) {
			below++
		}
		if below >= len(h.items) || !h.ahead(h.items[below], x) {
			return at
		}
		h.put(h.items[below], at)
		at = below
	}
}

func (h *heap[T]) put(x T, at int) {
	h.items[at] = x
	h.moved(x, at)
}
