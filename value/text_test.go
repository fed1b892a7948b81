package value_test

import (
	"math"
	"slices"
	"strings"
	"testing"

	"quire/api"
	"quire/value"
)

func TestP2_4Text(t *testing.T) {
	for _, x := range []struct {
		v    api.Value
		want string
	}{
		{api.Value{}, `null`}, {api.Value{Kind: api.ValMap}, `map`},
		{boolean(0), `false`}, {boolean(1), `true`},
		{integer(0), `0`}, {integer(7), `7`}, {integer(-7), `-7`}, {integer(100), `100`},
		{integer(math.MaxInt64), `9223372036854775807`}, {integer(math.MinInt64), `-9223372036854775808`},
		{float(1), `f3ff0000000000000`}, {float(0), `f0000000000000000`}, {float(minusZero), `f8000000000000000`},
		{float(math.Inf(1)), `f7ff0000000000000`}, {float(math.Inf(-1)), `ffff0000000000000`},
		{float(math.SmallestNonzeroFloat64), `f0000000000000001`}, {floatOf(0x0123456789ABCDEF), `f0123456789abcdef`}, {floatOf(0xFEDCBA9876543210), `ffedcba9876543210`},
		{text(``), `""`}, {text(`a`), `"a"`}, {text(`a"b`), `"a\"b"`}, {text(`"`), `"\""`}, {text(`\`), `"\\"`}, {text(`\"`), `"\\\""`}, {text(`""\\`), `"\"\"\\\\"`},
		{text("\n\t\x00'é😀/"), "\"\n\t\x00'é😀/\""}, {text(`\n`), `"\\n"`},
		{text(strings.Repeat(`"`, api.MaxString)), `"` + strings.Repeat(`\"`, api.MaxString) + `"`},
	} {
		if got := value.Text(x.v); got != x.want {
			t.Errorf("%v: %s, not %s", x.v, got, x.want)
		}
	}
	for _, bits := range nans() {
		if got := value.Text(floatOf(bits)); got != "f7ff8000000000000" {
			t.Errorf("%X: %s", bits, got)
		}
	}
}

// all: right values, neighbours among them, each unlike all others.
func all() []api.Value {
	l := ordered()
	for n := range int64(40) {
		l = append(l, integer(1000+n), integer(-1000-n), floatOf(1<<40+uint64(n)), floatOf(1<<63+1<<40+uint64(n)))
	}
	for bit := range 52 {
		l = append(l, integer(1<<56+1<<bit), floatOf(0x4000000000000000+1<<bit))
	}
	parts := []string{`x`, `\`, `"`}
	for _, a := range parts {
		for _, b := range parts {
			for _, c := range parts {
				l = append(l, text("t"+a+b+c), text("u"+a+b+c+`"`), text("u"+a+b+c+`\`))
			}
		}
	}
	return append(l, text(strings.Repeat("a", api.MaxString)), text(strings.Repeat("a", api.MaxString-1)))
}

func TestP2_5UnlikeTextsAndBytes(t *testing.T) {
	l := all()
	texts, written := map[string]api.Value{}, map[string]api.Value{}
	for i, v := range l {
		if value.Check(v) != api.OK || slices.ContainsFunc(l[:i], func(o api.Value) bool { return value.Same(o, v) }) {
			t.Errorf("no value, or twice: %v", v)
		}
		if o, ok := texts[value.Text(v)]; ok {
			t.Errorf("%v and %v: the text %s", o, v, value.Text(v))
		}
		if o, ok := written[bytesOf(v)]; ok {
			t.Errorf("%v and %v: the bytes %x", o, v, bytesOf(v))
		}
		texts[value.Text(v)], written[bytesOf(v)] = v, v
	}
}

// Values that are the same have the same bytes and texts: NaNs of all bits.
func TestP2_5OneNaN(t *testing.T) {
	for _, bits := range nans() {
		if value.Text(floatOf(bits)) != value.Text(floatOf(theNaN)) || bytesOf(floatOf(bits)) != bytesOf(floatOf(theNaN)) {
			t.Errorf("%X", bits)
		}
	}
}
