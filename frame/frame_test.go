package frame

import (
	"bytes"
	"encoding/binary"
	"hash/crc32"
	"math"
	"slices"
	"testing"
)

// worded is a record's bytes as promise 5.1 words them.
func worded(record []byte) []byte {
	size := binary.LittleEndian.AppendUint32(nil, uint32(len(record)))
	sum := crc32.ChecksumIEEE(slices.Concat(size, record))
	return slices.Concat(size, binary.LittleEndian.AppendUint32(nil, sum), record)
}

// row is some records' bytes, one behind the other.
func row(records [][]byte) []byte {
	var b []byte
	for _, r := range records {
		b = append(b, worded(r)...)
	}
	return b
}

// claim is bytes that say a length, with the sum that these bytes have under it, however many there are.
func claim(size uint32, rest []byte) []byte {
	says := binary.LittleEndian.AppendUint32(nil, size)
	sum := crc32.ChecksumIEEE(slices.Concat(says, rest))
	return slices.Concat(says, binary.LittleEndian.AppendUint32(nil, sum), rest)
}

// someBytes is n bytes that look like chance, the same ones for the same seed.
func someBytes(n int, seed uint64) []byte {
	b := make([]byte, n)
	for i := range b {
		seed = seed*6364136223846793005 + 1442695040888963407
		b[i] = byte(seed >> 56)
	}
	return b
}

// someRecords is records of lengths that differ, empty ones first, last and in the midst.
func someRecords() [][]byte {
	var list [][]byte
	for i, n := range []int{0, 1, 2, 0, 0, 3, 7, 8, 9, 30, 1, 0} {
		list = append(list, someBytes(n, uint64(i)))
	}
	return list
}

// want fails the test, if other records are told, or another number of bytes.
func want(t *testing.T, what string, b []byte, records [][]byte, n int) {
	t.Helper()
	got, k := Scan(b)
	if !slices.EqualFunc(got, records, bytes.Equal) || k != n {
		t.Errorf("%s: %v, %d, want %v, %d", what, got, k, records, n)
	}
}

// aheadOf is how many of some records end at a byte of their row or ahead of it, and how many bytes these are.
func aheadOf(records [][]byte, at int) (count, size int) {
	for _, r := range records {
		if size+8+len(r) > at {
			break
		}
		size += 8 + len(r)
		count++
	}
	return count, size
}

func TestExample(t *testing.T) {
	b := Put(Put(nil, []byte{1, 2}), nil)
	if len(b) != 18 {
		t.Errorf("%d bytes, want 18", len(b))
	}
	want(t, "with a 9 behind", append(b, 9), [][]byte{{1, 2}, {}}, 18)
}

// 5.1

// Bytes that were written down once, so that no other code of this test says what they are.
func TestPutOfKnownRecords(t *testing.T) {
	for _, c := range []struct{ record, want []byte }{
		{nil, []byte{0, 0, 0, 0, 0x1c, 0xdf, 0x44, 0x21}},
		{[]byte{}, []byte{0, 0, 0, 0, 0x1c, 0xdf, 0x44, 0x21}},
		{[]byte{0}, []byte{1, 0, 0, 0, 0xad, 0xde, 0x42, 0xfb, 0}},
		{[]byte{1, 2}, []byte{2, 0, 0, 0, 0xc5, 0x50, 0x1f, 0x0b, 1, 2}},
		{[]byte("paid"), []byte{4, 0, 0, 0, 0xb7, 0xa5, 0xa2, 0x3d, 'p', 'a', 'i', 'd'}},
	} {
		if got := Put(nil, c.record); !bytes.Equal(got, c.want) {
			t.Errorf("Put(nil, %v) = %#x, want %#x", c.record, got, c.want)
		}
	}
}

// The last of the long ones needs all of the four bytes.
func TestPutOfEachLength(t *testing.T) {
	sizes := []int{1<<16 - 1, 1 << 16, 1<<16 + 1, 1<<24 + 1<<16 + 1<<8 + 1}
	for n := range 600 {
		sizes = append(sizes, n)
	}
	for _, n := range sizes {
		record := someBytes(n, uint64(n))
		b := Put(nil, record)
		if !bytes.Equal(b, worded(record)) {
			t.Fatalf("a record of %d bytes: other bytes", n)
		}
		if got, k := Scan(b); len(got) != 1 || !bytes.Equal(got[0], record) || k != n+8 {
			t.Fatalf("a record of %d bytes is not told: %d records, %d bytes", n, len(got), k)
		}
	}
}

func TestPutStandsBehind(t *testing.T) {
	for n := range 40 {
		b := someBytes(n, 3)
		for _, record := range someRecords() {
			all := slices.Concat(b, worded(record))
			if got := Put(slices.Clip(b), record); !bytes.Equal(got, all) {
				t.Errorf("%d bytes, %v behind: %v, want %v", n, record, got, all)
			}
			if !bytes.Equal(b, someBytes(n, 3)) {
				t.Fatalf("b was changed: %v", b)
			}
		}
	}
}

func TestPutBehindNothing(t *testing.T) {
	for _, b := range [][]byte{nil, {}, make([]byte, 0, 100), someBytes(100, 1)[:0]} {
		if got := Put(b, []byte{5}); !bytes.Equal(got, worded([]byte{5})) {
			t.Errorf("%v", got)
		}
	}
}

// Whatever lies behind b's length, and however much of it, is in no answer.
func TestPutWithMemoryBehind(t *testing.T) {
	record := someBytes(5, 2)
	all := slices.Concat([]byte{1, 2, 3}, worded(record))
	for spare := range 40 {
		memory := append([]byte{1, 2, 3}, bytes.Repeat([]byte{0xee}, spare)...)
		if got := Put(memory[:3:3+spare], record); !bytes.Equal(got, all) {
			t.Errorf("%d bytes behind: %v, want %v", spare, got, all)
		}
		if !bytes.Equal(memory[:3], []byte{1, 2, 3}) || !bytes.Equal(record, someBytes(5, 2)) {
			t.Fatalf("%d bytes behind: %v, %v: changed", spare, memory[:3], record)
		}
	}
}

// What lies behind b's capacity is not b's own.
func TestPutWritesNothingBehindTheCapacity(t *testing.T) {
	for spare := range 20 {
		memory := bytes.Repeat([]byte{0xee}, 40)
		Put(memory[:3:3+spare], []byte{1, 2, 3})
		if !bytes.Equal(memory[3+spare:], bytes.Repeat([]byte{0xee}, 37-spare)) {
			t.Errorf("%d bytes behind: %v", spare, memory)
		}
	}
}

func TestPutOfARecordInTheSameMemory(t *testing.T) {
	const size = 32
	for begin := range size {
		for end := begin; end <= size; end++ {
			memory := someBytes(size, 7)
			b, record := memory[:4], memory[begin:end]
			all := slices.Concat(b, worded(record))
			if got := Put(b, record); !bytes.Equal(got, all) {
				t.Fatalf("the record is bytes %d to %d of b's memory: %v, want %v", begin, end, got, all)
			}
		}
	}
}

func TestPutKeepsNoRecord(t *testing.T) {
	record := someBytes(20, 4)
	b := Put([]byte{1}, record)
	was := slices.Clone(b)
	for i := range record {
		record[i] ^= 0xff
	}
	if !bytes.Equal(b, was) {
		t.Errorf("%v, want %v", b, was)
	}
}

func TestPutReadsNothingBehindTheRecord(t *testing.T) {
	record := someBytes(30, 5)
	if got := Put(nil, record[:10]); !bytes.Equal(got, worded(someBytes(30, 5)[:10])) {
		t.Errorf("%v", got)
	}
	if !bytes.Equal(record, someBytes(30, 5)) {
		t.Error("the record was changed")
	}
}

// 5.2

func TestScanOfWhatWasPut(t *testing.T) {
	var b []byte
	records := someRecords()
	for i, r := range records {
		b = Put(b, r)
		want(t, "there and back", b, records[:i+1], len(row(records[:i+1])))
	}
	if !bytes.Equal(b, row(records)) {
		t.Errorf("%v", b)
	}
}

func TestScanOfManyRecords(t *testing.T) {
	var records [][]byte
	for i := range 20000 {
		records = append(records, someBytes(i%5, uint64(i)))
	}
	b := row(records)
	got, n := Scan(b)
	if !slices.EqualFunc(got, records, bytes.Equal) || n != len(b) {
		t.Errorf("%d records, %d bytes", len(got), n)
	}
}

func TestScanOfNoRecord(t *testing.T) {
	want(t, "nil", nil, nil, 0)
	want(t, "an empty list", []byte{}, nil, 0)
	for n := range 40 {
		want(t, "noughts", make([]byte, n), nil, 0)
		want(t, "nothing but turned bits", bytes.Repeat([]byte{0xff}, n), nil, 0)
		want(t, "bytes as by chance", someBytes(n, uint64(n)), nil, 0)
	}
	whole := worded([]byte{1, 2})
	want(t, "a byte ahead of a record", append([]byte{9}, whole...), nil, 0)
}

func TestScanWithBytesBehind(t *testing.T) {
	records := someRecords()
	whole := row(records)
	for n := range 30 {
		for what, c := range map[string]byte{"noughts": 0, "ones": 1, "turned bits": 0xff} {
			want(t, what, append(whole[:len(whole):len(whole)], bytes.Repeat([]byte{c}, n)...), records, len(whole))
		}
	}
	torn := slices.Concat(whole, worded([]byte{1, 2})[:9], worded([]byte{3}))
	want(t, "a whole record behind a torn one", torn, records, len(whole))
	wrong := worded([]byte{1, 2})
	wrong[4] ^= 1
	want(t, "a whole record behind one with another sum", slices.Concat(whole, wrong, worded([]byte{3})), records, len(whole))
}

func TestScanOfALengthThatSaysMore(t *testing.T) {
	ahead := [][]byte{{1, 2}, {}}
	for _, n := range []int{0, 1, 2, 7, 8, 9, 40} {
		rest := someBytes(n, 6)
		for _, more := range []uint32{1, 2, 8, 255, 1 << 16, 1 << 24, math.MaxInt32 - 50, math.MaxInt32, math.MaxInt32 + 1, math.MaxInt32 + 2, math.MaxUint32 - 9, math.MaxUint32 - 8, math.MaxUint32 - 7} {
			size := uint32(n) + min(more, math.MaxUint32-uint32(n))
			want(t, "alone", claim(size, rest), nil, 0)
			want(t, "behind others", append(row(ahead), claim(size, rest)...), ahead, 18)
		}
		want(t, "the greatest", claim(math.MaxUint32, rest), nil, 0)
		want(t, "just as much", claim(uint32(n), rest), [][]byte{rest}, n+8)
	}
}

// Bytes behind it make up for what a length says too much, but they have another sum.
func TestScanOfALengthOfOtherBytes(t *testing.T) {
	for n := range 10 {
		for size := range uint32(30) {
			b := append(claim(size, someBytes(n, 8)), someBytes(40, 9)...)
			if int(size) == n {
				want(t, "its own", b, [][]byte{someBytes(n, 8)}, n+8)
			} else {
				want(t, "of others", b, nil, 0)
			}
		}
	}
}

// A sum of the record's own bytes alone, one of nothing, or one with its bytes the other way round is none.
func TestScanOfOtherSums(t *testing.T) {
	for _, record := range [][]byte{{}, {0}, {1, 2}, someBytes(20, 1)} {
		whole := worded(record)
		for what, sum := range map[string][]byte{
			"of its own bytes alone": binary.LittleEndian.AppendUint32(nil, crc32.ChecksumIEEE(record)),
			"nought":                 {0, 0, 0, 0},
			"the other way round":    {whole[7], whole[6], whole[5], whole[4]},
			"its bits turned":        {^whole[4], ^whole[5], ^whole[6], ^whole[7]},
		} {
			want(t, what, slices.Concat(whole[:4], sum, record), nil, 0)
		}
	}
}

func TestScanOfALengthTheOtherWayRound(t *testing.T) {
	record := someBytes(256, 2)
	size := []byte{0, 0, 1, 0}
	sum := binary.LittleEndian.AppendUint32(nil, crc32.ChecksumIEEE(slices.Concat(size, record)))
	want(t, "256, the highest byte first", slices.Concat(size, sum, record), nil, 0)
}

func TestRecordsLieWithinTheMemory(t *testing.T) {
	records := someRecords()
	b := row(records)
	got, _ := Scan(b)
	at := 0
	for i, r := range got {
		at += 8
		if len(r) > 0 && &r[0] != &b[at] {
			t.Errorf("record %d does not lie at byte %d", i, at)
		}
		if cap(r) != len(r) {
			t.Errorf("record %d of %d bytes reaches on: %d", i, len(r), cap(r))
		}
		at += len(r)
	}
}

func TestAppendToARecordLeavesTheOthers(t *testing.T) {
	records := someRecords()
	b := row(records)
	was := slices.Clone(b)
	got, _ := Scan(b)
	for _, r := range got {
		_ = append(r, 0xee, 0xee)
	}
	if !bytes.Equal(b, was) {
		t.Error("the bytes were changed")
	}
	if !slices.EqualFunc(got, records, bytes.Equal) {
		t.Errorf("%v, want %v", got, records)
	}
}

func TestScanChangesNothing(t *testing.T) {
	b := append(row(someRecords()), 1, 2, 3)
	was := slices.Clone(b)
	first, _ := Scan(b)
	second, _ := Scan(b)
	if !bytes.Equal(b, was) {
		t.Error("the bytes were changed")
	}
	first[0], first[1] = []byte{9}, []byte{9}
	if !slices.EqualFunc(second, someRecords(), bytes.Equal) {
		t.Errorf("two answers share a list: %v", second)
	}
	want(t, "once more", b, someRecords(), len(b)-3)
}

// 5.3

// What is cut off still lies behind in the memory, and is not read.
func TestCutShort(t *testing.T) {
	records := someRecords()
	b := row(records)
	for at := range len(b) + 1 {
		count, size := aheadOf(records, at)
		want(t, "cut, all else behind", b[:at], records[:count], size)
		want(t, "cut", slices.Clone(b[:at]), records[:count], size)
	}
}

// Of a length's byte nothing more is promised than that what stood ahead of it is told.
func TestATurnedByte(t *testing.T) {
	records := someRecords()
	b := row(records)
	for at := range b {
		count, size := aheadOf(records, at)
		length := at-size < 4
		for turn := 1; turn < 256; turn++ {
			c := slices.Clone(b)
			c[at] ^= byte(turn)
			if !length {
				want(t, "turned", c, records[:count], size)
				continue
			}
			if got, n := Scan(c); n < size || !slices.EqualFunc(got[:count], records[:count], bytes.Equal) {
				t.Errorf("a length's byte %d turned by %d: %v, %d: what stood ahead of it is lost", at, turn, got, n)
			}
		}
	}
}

// P6 and R1: whatever the bytes are.

// plainScan is Scan as promise 5.2 words it, by records that are written anew.
func plainScan(b []byte) ([][]byte, int) {
	var list [][]byte
	done := 0
	for len(b)-done >= 8 {
		size := binary.LittleEndian.Uint32(b[done:])
		if int64(size) > int64(len(b)-done-8) {
			break
		}
		record := b[done+8 : done+8+int(size)]
		if !bytes.HasPrefix(b[done:], worded(record)) {
			break
		}
		list = append(list, record)
		done += 8 + len(record)
	}
	return list, done
}

func TestScanOfManyRows(t *testing.T) {
	for seed := range uint64(3000) {
		says := someBytes(12, seed)
		var b []byte
		for _, n := range says[:says[0]%6] {
			b = append(b, worded(someBytes(int(n%20), seed+uint64(n)))...)
		}
		b = append(b, someBytes(int(says[6]%12), seed+1)...)
		if says[7]%2 == 1 && len(b) > 0 {
			b[int(says[8])%len(b)] ^= says[9]
		}
		records, n := plainScan(b)
		want(t, "as by chance", b, records, n)
		want(t, "the same once more", b, records, n)
	}
}
