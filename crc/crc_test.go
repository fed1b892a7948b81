package crc_test

import (
	"hash/crc32"
	"math/rand"
	"testing"

	"quire/crc"
)

func TestSum(t *testing.T) {
	b := make([]byte, 1000)
	rand.New(rand.NewSource(1)).Read(b)
	for n := range len(b) {
		if got, want := crc.Sum(b[:n]), crc32.ChecksumIEEE(b[:n]); got != want {
			t.Errorf("Sum of %d bytes: %X, not %X", n, got, want)
		}
	}
	for x := range 256 {
		if got, want := crc.Sum([]byte{byte(x)}), crc32.ChecksumIEEE([]byte{byte(x)}); got != want {
			t.Errorf("Sum of %X: %X, not %X", x, got, want)
		}
	}
}
