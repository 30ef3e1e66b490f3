// Package quot is layer 1: it computes with floors of linear functions.
package quot

import (
	"cmp"
	"iter"
	"slices"

	"forme/api"
)

// Valid reports whether a quotient is within its limits.
func Valid(q api.Quot) bool {
	return q.D >= 1 && q.D <= api.MaxDen && isValue(q.A) && isValue(q.B)
}

// At returns the value of a quotient at a number.
func At(q api.Quot, n int) (int, api.Errno) {
	if !Valid(q) || !isPlace(n) {
		return 0, api.ErrArg
	}
	return floor(q.A*n+q.B, q.D), api.OK
}

// Add returns the quotient that is greater by a number.
func Add(q api.Quot, by int) (api.Quot, api.Errno) {
	if !Valid(q) || !isValue(by) {
		return api.Quot{}, api.ErrArg
	}
	q.B += by * q.D
	if !isValue(q.B) {
		return api.Quot{}, api.ErrRange
	}
	return q, api.OK
}

// Fit returns the first quotient that has some values at 0, 1 and so on, and whether there is one.
func Fit(values []int) (api.Quot, bool, api.Errno) {
	if len(values) > api.MaxInts {
		return api.Quot{}, false, api.ErrLimit
	}
	if len(values) == 0 || slices.ContainsFunc(values, func(v int) bool { return !isValue(v) }) {
		return api.Quot{}, false, api.ErrArg
	}
	nearest := func(a, b int) int {
		return cmp.Or(cmp.Compare(max(a, -a), max(b, -b)), cmp.Compare(a, b))
	}
search:
	for q := range candidates(values, nearest) {
		// Each value confines B to D neighbouring numbers.
		least, most := -api.MaxCoord, api.MaxCoord
		for n, v := range values {
			low := q.D*v - q.A*n
			least, most = max(least, low), min(most, low+q.D-1)
			if least > most {
				continue search
			}
		}
		q.B = least
		return q, true, api.OK
	}
	return api.Quot{}, false, api.OK
}

// Below returns the first number up to a last one at which a quotient is less than another one, and whether there is one.
func Below(q, r api.Quot, last int) (int, bool, api.Errno) {
	if !Valid(q) || !Valid(r) || !isPlace(last) {
		return 0, false, api.ErrArg
	}
	for n := range last + 1 {
		if floor(q.A*n+q.B, q.D) < floor(r.A*n+r.B, r.D) {
			return n, true, api.OK
		}
	}
	return 0, false, api.OK
}

// candidates produces, without B, the quotients that can have the first and the last one of some values, in their order.
func candidates(values []int, order func(a, b int) int) iter.Seq[api.Quot] {
	return func(yield func(api.Quot) bool) {
		for d := 1; d <= api.MaxDen; d++ {
			slopes := slopes(values, d)
			slices.SortFunc(slopes, order)
			for _, a := range slopes {
				if !yield(api.Quot{A: a, D: d}) {
					return
				}
			}
		}
	}
}

// slopes returns each A with which a quotient by d can get from the first value to the last one.
func slopes(values []int, d int) []int {
	last := len(values) - 1
	if last == 0 {
		return []int{0}
	}
	rise := d * (values[last] - values[0])
	from := max(-floor(d-1-rise, last), -api.MaxCoord)
	until := min(floor(rise+d-1, last), api.MaxCoord)
	var l []int
	for a := from; a <= until; a++ {
		l = append(l, a)
	}
	return l
}

func floor(n, d int) int {
	q := n / d
	if n%d < 0 {
		q--
	}
	return q
}

func isValue(n int) bool { return n >= -api.MaxCoord && n <= api.MaxCoord }

func isPlace(n int) bool { return n >= 0 && n <= api.MaxWidth }
