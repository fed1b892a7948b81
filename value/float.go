package value

import (
	"math"

	"quire/api"
)

const (
	// nanBits are those of the one NaN; math.NaN has others.
	nanBits = 0x7FF8000000000000
	signBit = 1 << 63
)

func isNaN(f float64) bool {
	return f != f
}

// oneNaN answers f, or the one NaN for any other.
func oneNaN(f float64) float64 {
	if isNaN(f) {
		return math.Float64frombits(nanBits)
	}
	return f
}

// floatRank answers a number that grows as floats do, from -infinity on, by their bits: -0 is below 0, each NaN is the greatest.
func floatRank(f float64) uint64 {
	bits := math.Float64bits(f)
	switch {
	case isNaN(f):
		return math.MaxUint64
	case bits&signBit != 0: // the greater these bits, the lower the number
		return ^bits
	}
	return bits | signBit
}

// asFloat answers the number v as a float, rounded to nearest even; false, if v is no number.
func asFloat(v api.Value) (float64, bool) {
	switch v.Kind {
	case api.ValInt:
		return float64(v.N), true
	case api.ValFloat:
		return v.F, true
	}
	return 0, false
}
