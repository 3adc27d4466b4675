package num_test

import (
	"bytes"
	"hash/crc32"
	"slices"
	"testing"

	"undercroft/api"
	"undercroft/num"
)

// crcBitByBit is the sum as its polynomial says it: over bits, each byte's lowest first.
func crcBitByBit(row []byte) uint32 {
	const reflected = 0x82F63B78 // 1EDC6F41, its bits turned round
	sum := uint32(0xFFFFFFFF)
	for _, c := range row {
		for bit := range 8 {
			out := sum&1 != uint32(c>>bit)&1
			sum >>= 1
			if out {
				sum ^= reflected
			}
		}
	}
	return sum ^ 0xFFFFFFFF
}

// inetStepByStep adds what overflows again at once, number for number.
func inetStepByStep(row []byte) uint16 {
	if len(row)%2 == 1 {
		row = append(slices.Clone(row), 0)
	}
	sum := 0
	for i := 0; i < len(row); i += 2 {
		sum += int(row[i])*256 + int(row[i+1])
		if sum > 0xFFFF {
			sum = sum - 0x10000 + 1
		}
	}
	return uint16(0xFFFF - sum)
}

// rowsToSum are rows of many lengths and kinds.
func rowsToSum() [][]byte {
	var l [][]byte
	for n := range 40 {
		l = append(l, digits(n), make([]byte, n), bytes.Repeat([]byte{0xFF}, n))
	}
	every := make([]byte, 256)
	for i := range every {
		every[i] = byte(i)
		l = append(l, every[i:i+1])
	}
	return append(l, every, digits(api.BlockSize), digits(4097))
}

// cuts are ways to cut row into rows.
func cuts(row []byte) [][][]byte {
	l := [][][]byte{{row}, {nil, row}, {row, nil}, {{}, row, {}, nil}}
	for i := range row {
		l = append(l, [][]byte{row[:i], row[i:]}, [][]byte{row[:i], nil, row[i:]})
	}
	for _, step := range []int{1, 2, 3, 5} {
		var parts [][]byte
		for at := 0; at < len(row); at += step {
			parts = append(parts, row[at:min(at+step, len(row))])
		}
		l = append(l, parts)
	}
	return l
}

func TestCrcExamples(t *testing.T) {
	up := make([]byte, 32)
	for i := range up {
		up[i] = byte(i)
	}
	down := slices.Clone(up)
	slices.Reverse(down)
	for i, x := range []struct {
		row  []byte
		want uint32
	}{
		{nil, 0}, {[]byte{}, 0}, {[]byte{0}, 0x527D5351}, {[]byte("a"), 0xC1D04330}, {[]byte("123456789"), 0xE3069283},
		{make([]byte, 32), 0x8A9136AA}, {bytes.Repeat([]byte{0xFF}, 32), 0x62A8AB43}, {up, 0x46DD794E}, {down, 0x113FDB5C},
	} {
		if v := num.Crc(x.row); v != x.want {
			t.Errorf("P102: %d: %08X instead of %08X", i, v, x.want)
		}
	}
	if v := num.Crc(); v != 0 {
		t.Errorf("P102: of none %08X", v)
	}
	if v := num.Crc(nil, []byte{}, nil); v != 0 {
		t.Errorf("P102: of empty rows %08X", v)
	}
}

func TestCrcByItsPolynomial(t *testing.T) {
	table := crc32.MakeTable(crc32.Castagnoli)
	for _, row := range rowsToSum() {
		v := num.Crc(row)
		if v != crcBitByBit(row) || v != crc32.Checksum(row, table) {
			t.Errorf("P102: %d bytes: %08X instead of %08X", len(row), v, crcBitByBit(row))
		}
	}
}

func TestInetExamples(t *testing.T) {
	for i, x := range []struct {
		l    [][]byte
		want uint16
	}{
		{nil, 0xFFFF},
		{[][]byte{nil, {}}, 0xFFFF},
		{[][]byte{{0, 1, 0xF2, 3, 0xF4, 0xF5, 0xF6, 0xF7}}, 0x220D},
		{[][]byte{{0}}, 0xFFFF},
		{[][]byte{{0, 0}}, 0xFFFF},
		{[][]byte{{0x12}}, 0xEDFF},
		{[][]byte{{0x12, 0x34}}, 0xEDCB},
		{[][]byte{{0x12, 0x34, 0x56}}, 0x97CB},
		{[][]byte{{0x12}, {0x34}, {0x56}}, 0x97CB},
		{[][]byte{{0x12, 0x34, 0x56}, {0x78}}, 0x9753},
		{[][]byte{{0xFF, 0xFF}}, 0},
		{[][]byte{{0xFF, 0xFE, 0, 1}}, 0},
		{[][]byte{{0xFF, 0xFF, 0, 1}}, 0xFFFE},
		{[][]byte{{0xFF, 0xFF, 0xFF, 0xFF}}, 0},
		{[][]byte{{0x80, 0, 0x80, 0}}, 0xFFFE},
		{[][]byte{{0xFF, 0xFF, 0xFF}}, 0x00FF},
	} {
		if v := num.Inet(x.l...); v != x.want {
			t.Errorf("P103: %d: %04X instead of %04X", i, v, x.want)
		}
	}
}

func TestInetStepByStep(t *testing.T) {
	for _, row := range rowsToSum() {
		if v := num.Inet(row); v != inetStepByStep(row) {
			t.Errorf("P103: %d bytes: %04X instead of %04X", len(row), v, inetStepByStep(row))
		}
	}
}

// So many bytes that their sum has more than 32 bits, and what overflows, once added, may overflow again.
func TestInetOfMuch(t *testing.T) {
	high := bytes.Repeat([]byte{0xFF}, 1<<19)
	for _, row := range [][]byte{high, high[:1<<19-1], append(slices.Clone(high), 0, 1), append(slices.Clone(high), 0x12, 0x34, 0x56), digits(1<<19 + 1)} {
		if v := num.Inet(row); v != inetStepByStep(row) {
			t.Errorf("P103: %d bytes: %04X instead of %04X", len(row), v, inetStepByStep(row))
		}
	}
}

func TestRowsCutInAnotherWay(t *testing.T) {
	for _, n := range []int{0, 1, 2, 3, 7, 8, 31, 64} {
		row := digits(n)
		for i, l := range cuts(row) {
			if v := num.Crc(l...); v != crcBitByBit(row) {
				t.Errorf("P104: %d bytes, cut %d: Crc %08X instead of %08X", n, i, v, crcBitByBit(row))
			}
			if v := num.Inet(l...); v != inetStepByStep(row) {
				t.Errorf("P104: %d bytes, cut %d: Inet %04X instead of %04X", n, i, v, inetStepByStep(row))
			}
		}
	}
}

// The order of the rows counts.
func TestRowsStandBehindEachOther(t *testing.T) {
	one, two := []byte{1, 2, 3}, []byte{4, 5}
	if num.Crc(one, two) == num.Crc(two, one) {
		t.Errorf("P102: rows in another order have the same Crc")
	}
	if v, w := num.Inet(one, two), num.Inet(two, one); v != 0xF6F9 || w != 0xF7F8 {
		t.Errorf("P103: %04X, %04X", v, w)
	}
}

func TestInetBehindItsRow(t *testing.T) {
	for _, row := range rowsToSum() {
		if len(row)%2 == 1 {
			continue
		}
		whole, e := num.PutBe(row, 2, uint64(num.Inet(row)))
		if v := num.Inet(whole); v != 0 || e != api.OK {
			t.Errorf("P104: %d bytes: %04X, %v", len(row), v, e)
		}
		sum, _ := num.PutBe(nil, 2, uint64(num.Inet(row)))
		if v := num.Inet(row, sum); v != 0 {
			t.Errorf("P104: %d bytes, the sum as a row: %04X", len(row), v)
		}
	}
}

// A row that is odd is not made even in its own spare room.
func TestSumsChangeNothing(t *testing.T) {
	for _, n := range []int{0, 1, 2, 7, 8} {
		row, whole := withSpare(digits(n))
		was := slices.Clone(whole)
		l := [][]byte{row, row, {3}, nil, row}
		heads := slices.Clone(l)
		one, two := num.Crc(l...), num.Inet(l...)
		if !bytes.Equal(whole, was) {
			t.Errorf("P2: %d bytes: a sum changed what it was handed", n)
		}
		for i := range l {
			if !bytes.Equal(l[i], heads[i]) || len(l[i]) != len(heads[i]) {
				t.Errorf("P2: %d bytes: row %d is another one", n, i)
			}
		}
		if one != num.Crc(l...) || two != num.Inet(l...) {
			t.Errorf("P3: %d bytes: a sum is another one when it is asked again", n)
		}
	}
}
