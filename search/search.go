// Package search finds things in sorted lists. It is no layer: it is what the packages share that keep such lists.
package search

// Find returns the index of what has the order 0 in a list by rising orders, and whether there is such a thing.
func Find[T any](l []T, order func(x T) int) (int, bool) {
	low, high := 0, len(l)
	for low < high {
		mid := (low + high) / 2
		switch o := order(l[mid]); {
		case o == 0:
			return mid, true
		case o < 0:
			low = mid + 1
		default:
			high = mid
		}
	}
	return 0, false
}
