package num

// crcOfHalf is what four bits add to the sum CRC-32C. Halves of bytes, since a table of whole ones would be too long to write out.
var crcOfHalf = [16]uint32{
	0x00000000, 0x105EC76F, 0x20BD8EDE, 0x30E349B1,
	0x417B1DBC, 0x5125DAD3, 0x61C69362, 0x7198540D,
	0x82F63B78, 0x92A8FC17, 0xA24BB5A6, 0xB21572C9,
	0xC38D26C4, 0xD3D3E1AB, 0xE330A81A, 0xF36E6F75,
}

// Crc is the sum of rows, one behind the other, that disks use; Inet the one that networks use.
func Crc(l ...[]byte) uint32 {
	sum := ^uint32(0)
	for _, row := range l {
		for _, c := range row {
			sum ^= uint32(c)
			sum = sum>>4 ^ crcOfHalf[sum&15]
			sum = sum>>4 ^ crcOfHalf[sum&15]
		}
	}
	return ^sum
}

func Inet(l ...[]byte) uint16 {
	// 64 bits hold all that may be added, so what overflows 16 is added again at the end alone.
	sum, shift := uint64(0), uint(8)
	for _, row := range l {
		for _, c := range row {
			sum += uint64(c) << shift
			shift = 8 - shift // from row to row too: a row that is odd splits a number
		}
	}
	for sum>>16 != 0 {
		sum = sum&0xFFFF + sum>>16
	}
	return ^uint16(sum)
}
