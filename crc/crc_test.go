package crc

import (
	"bytes"
	"hash/crc32"
	"testing"
)

// someBytes is n bytes that look like chance, the same ones for the same seed.
func someBytes(n int, seed uint64) []byte {
	b := make([]byte, n)
	for i := range b {
		seed = seed*6364136223846793005 + 1442695040888963407
		b[i] = byte(seed >> 56)
	}
	return b
}

// bitsOf is b's bits, each byte's lowest one first.
func bitsOf(b []byte) []int {
	var row []int
	for _, c := range b {
		for k := range 8 {
			row = append(row, int(c>>k&1))
		}
	}
	return row
}

// divided is the sum as promise 1.1 words it: the whole row of bits, divided with pencil and paper.
func divided(b []byte) uint32 {
	row := append(bitsOf(b), make([]int, 32)...)
	for i := range 32 {
		row[i] ^= 1
	}
	powers := []int{32, 26, 23, 22, 16, 12, 11, 10, 8, 7, 5, 4, 2, 1, 0}
	for i := range len(row) - 32 {
		if row[i] == 0 {
			continue
		}
		for _, p := range powers {
			row[i+32-p] ^= 1
		}
	}
	var sum uint32
	for k, bit := range row[len(row)-32:] {
		sum |= uint32(bit^1) << k
	}
	return sum
}

// turned is b with one bit turned.
func turned(b []byte, bit int) []byte {
	c := bytes.Clone(b)
	c[bit/8] ^= 1 << (bit % 8)
	return c
}

func TestSumOfKnownTexts(t *testing.T) {
	for _, c := range []struct {
		text string
		want uint32
	}{
		{"123456789", 0xcbf43926},
		{"", 0},
		{"a", 0xe8b7be43},
		{"abc", 0x352441c2},
		{"The quick brown fox jumps over the lazy dog", 0x414fa339},
		{"\x00", 0xd202ef8d},
		{"\x00\x00\x00\x00", 0x2144df1c},
		{"\xff", 0xff000000},
		{"\xff\xff\xff\xff", 0xffffffff},
	} {
		if got := Sum([]byte(c.text)); got != c.want {
			t.Errorf("Sum(%q) = %#x, want %#x", c.text, got, c.want)
		}
	}
}

func TestSumOfNothing(t *testing.T) {
	if Sum(nil) != 0 || Sum([]byte{}) != 0 {
		t.Errorf("Sum(nil) = %#x, Sum of an empty list = %#x, want 0", Sum(nil), Sum([]byte{}))
	}
}

func TestSumOfEachByte(t *testing.T) {
	for c := range 256 {
		b := []byte{byte(c)}
		if got, want := Sum(b), divided(b); got != want {
			t.Errorf("Sum(%#x) = %#x, want %#x", c, got, want)
		}
	}
}

func TestSumIsTheRemainder(t *testing.T) {
	for n := range 300 {
		b := someBytes(n, uint64(n))
		if got, want := Sum(b), divided(b); got != want {
			t.Fatalf("%d bytes: %#x, want %#x", n, got, want)
		}
	}
}

func TestSumOfLongTexts(t *testing.T) {
	for _, n := range []int{4095, 4096, 65535, 65536, 1<<20 + 1} {
		b := someBytes(n, 7)
		if got, want := Sum(b), crc32.ChecksumIEEE(b); got != want {
			t.Errorf("%d bytes: %#x, want %#x", n, got, want)
		}
	}
}

func TestUpdateGoesOnAnywhere(t *testing.T) {
	for n := range 130 {
		b := someBytes(n, uint64(n)+1000)
		want := divided(b)
		for cut := range n + 1 {
			if got := Update(Sum(b[:cut]), b[cut:]); got != want {
				t.Fatalf("%d bytes cut at %d: %#x, want %#x", n, cut, got, want)
			}
		}
	}
}

func TestUpdateByteByByte(t *testing.T) {
	b := someBytes(1000, 3)
	var sum uint32
	for i := range b {
		sum = Update(sum, b[i:i+1])
		if want := crc32.ChecksumIEEE(b[:i+1]); sum != want {
			t.Fatalf("%d bytes: %#x, want %#x", i+1, sum, want)
		}
	}
}

func TestUpdateOverNothing(t *testing.T) {
	sums := []uint32{0, 1, 0xcbf43926, 0x7fffffff, 0x80000000, 0xedb88320, 0xffffffff}
	for k := range 32 {
		sums = append(sums, 1<<k)
	}
	for _, s := range sums {
		if got := Update(s, nil); got != s {
			t.Errorf("Update(%#x, nil) = %#x", s, got)
		}
		if got := Update(s, []byte{}); got != s {
			t.Errorf("Update(%#x, an empty list) = %#x", s, got)
		}
	}
}

// Every number is the sum of some text, so that Update's promise holds at all of them.
func TestUpdateOfAnySum(t *testing.T) {
	b := someBytes(50, 9)
	for k := range 32 {
		for _, s := range []uint32{1 << k, ^uint32(1 << k), 1<<k - 1, 0x9e3779b9 * uint32(k)} {
			if got, want := Update(s, b), crc32.Update(s, crc32.IEEETable, b); got != want {
				t.Errorf("Update(%#x, ..) = %#x, want %#x", s, got, want)
			}
		}
	}
}

func TestOneBitTurned(t *testing.T) {
	for _, n := range []int{1, 2, 3, 4, 5, 8, 31, 64, 257} {
		b := someBytes(n, uint64(n)+20)
		for i := range 8 * n {
			if Sum(turned(b, i)) == Sum(b) {
				t.Errorf("%d bytes: bit %d turned, and the sum stays", n, i)
			}
		}
	}
}

func TestTwoBitsTurnedWithin32(t *testing.T) {
	for _, n := range []int{1, 4, 5, 40} {
		b := someBytes(n, uint64(n)+30)
		for i := range 8 * n {
			for j := i + 1; j < min(i+32, 8*n); j++ {
				if Sum(turned(turned(b, i), j)) == Sum(b) {
					t.Errorf("%d bytes: bits %d and %d turned, and the sum stays", n, i, j)
				}
			}
		}
	}
}

func TestSomeBitsTurnedWithin32(t *testing.T) {
	b := someBytes(40, 5)
	sum := Sum(b)
	for first := range 8*len(b) - 31 {
		mask := someBytes(4*20, uint64(first))
		for k := range 20 {
			c := turned(b, first)
			for i, bit := range bitsOf(mask[4*k : 4*k+4])[1:] {
				if bit == 1 {
					c = turned(c, first+1+i)
				}
			}
			if Sum(c) == sum {
				t.Fatalf("some of the 32 bits from %d on turned, and the sum stays", first)
			}
		}
	}
}

func TestOnlyTheListItselfIsRead(t *testing.T) {
	b := someBytes(64, 11)
	was := bytes.Clone(b)
	sum, on := Sum(b[:20]), Update(5, b[:20])
	if !bytes.Equal(b, was) {
		t.Error("what was handed in is changed")
	}
	for i := 20; i < len(b); i++ {
		b[i] ^= 0xff
	}
	if Sum(b[:20]) != sum || Update(5, b[:20]) != on {
		t.Error("what lies behind the length is read")
	}
}
