package wire

// halves is what each half of a byte does to a sum. (One of whole bytes would have more words than a table at package level may have.)
var halves = [16]uint32{
	0x00000000, 0x1db71064, 0x3b6e20c8, 0x26d930ac,
	0x76dc4190, 0x6b6b51f4, 0x4db26158, 0x5005713c,
	0xedb88320, 0xf00f9344, 0xd6d6a3e8, 0xcb61b38c,
	0x9b64c2b0, 0x86d3d2d4, 0xa00ae278, 0xbdbdf21c,
}

// Sum is a check sum of bytes.
func Sum(b []byte) uint32 {
	s := ^uint32(0)
	for _, x := range b {
		s ^= uint32(x)
		s = s>>4 ^ halves[s&15]
		s = s>>4 ^ halves[s&15]
	}
	return ^s
}
