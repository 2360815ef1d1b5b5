// Package fixvec is layer 1: vectors of whole numbers, and how far they are apart, exactly.
package fixvec

import "lodestar/api"

// Check tells whether v is a vector of dim parts that may be.
func Check(v []int32, dim int) api.Errno {
	if dim < 1 || dim > api.MaxDim || len(v) != dim {
		return api.ErrDim
	}
	for _, part := range v {
		if part < -api.MaxPart || part > api.MaxPart {
			return api.ErrPart
		}
	}
	return api.OK
}

// Dist tells how far a and b are apart by m; false, if that can't be told.
func Dist(m api.Metric, a, b []int32) (int64, bool) {
	measures := metrics()
	if int(m) >= len(measures) || Check(a, len(a)) != api.OK || Check(b, len(a)) != api.OK {
		return 0, false
	}
	return measures[m](a, b), true
}

// Less tells whether a is nearer than b, or as near with a lesser Id.
func Less(a, b api.Hit) bool {
	if a.Dist != b.Dist {
		return a.Dist < b.Dist
	}
	return a.Id < b.Id
}

// metrics gives the metrics' functions, each at its metric's number. They are handed two vectors that may be and are of one length.
func metrics() [2]func(a, b []int32) int64 {
	return [2]func(a, b []int32) int64{
		api.Square: square,
		api.Minus:  minus,
	}
}

// square widens the parts ahead of subtracting: the square of a difference may be 2^42, beyond an int32.
func square(a, b []int32) int64 {
	var sum int64
	for i, part := range a {
		apart := int64(part) - int64(b[i])
		sum += apart * apart
	}
	return sum
}

func minus(a, b []int32) int64 {
	var sum int64
	for i, part := range a {
		sum -= int64(part) * int64(b[i])
	}
	return sum
}
