package anon

// heap is numbers of which the least stands first: below place k stand places 2k+1 and 2k+2, with none that is less.
type heap []int

// put adds a number.
func (h *heap) put(n int) {
	*h = append(*h, n)
	h.rise(len(*h) - 1)
}

// take takes the least number away; false, if there is none.
func (h *heap) take() (int, bool) {
	list := *h
	if len(list) == 0 {
		return 0, false
	}
	least, last := list[0], len(list)-1
	list[0] = list[last]
	*h = list[:last]
	h.sink(0)
	return least, true
}

// rise brings the number at a place up to where none above it is greater.
func (h heap) rise(k int) {
	for k > 0 {
		above := (k - 1) / 2
		if h[above] <= h[k] {
			return
		}
		h[above], h[k] = h[k], h[above]
		k = above
	}
}

// sink brings the number at a place down to where none below it is less.
func (h heap) sink(k int) {
	for {
		least := k
		for below := 2*k + 1; below <= 2*k+2 && below < len(h); below++ {
			if h[below] < h[least] {
				least = below
			}
		}
		if least == k {
			return
		}
		h[least], h[k] = h[k], h[least]
		k = least
	}
}
