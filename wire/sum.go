package wire

import "quire/crc"

// Sum answers the CRC-32 of b (IEEE).
func Sum(b []byte) uint32 { return crc.Sum(b) }
