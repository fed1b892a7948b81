package value

import (
	"math"
	"strconv"
	"strings"

	"quire/api"
)

// Text tells v in such a way that no other value is told so; what has none of the kinds is told as nothing.
func Text(v api.Value) string {
	switch v.Kind {
	case api.ValNull:
		return "null"
	case api.ValBool:
		return strconv.FormatBool(v.N != 0)
	case api.ValInt:
		return strconv.FormatInt(v.N, 10)
	case api.ValFloat:
		return "f" + hex(math.Float64bits(oneNaN(v.F)))
	case api.ValText:
		return quoted(v.S)
	case api.ValMap:
		return "map"
	}
	return ""
}

// hex tells n in sixteen digits, noughts ahead too, so that all floats are told in one length.
func hex(n uint64) string {
	const digits = "0123456789abcdef"
	var told strings.Builder
	for shift := 60; shift >= 0; shift -= 4 {
		told.WriteByte(digits[n>>shift&0xF])
	}
	return told.String()
}

// quoted lays s between marks, and a \ ahead of what would pass for a mark, or for such a \. It goes by bytes: s need not be right UTF-8.
func quoted(s string) string {
	var told strings.Builder
	told.WriteByte('"')
	for i := range len(s) {
		if s[i] == '"' || s[i] == '\\' {
			told.WriteByte('\\')
		}
		told.WriteByte(s[i])
	}
	told.WriteByte('"')
	return told.String()
}
