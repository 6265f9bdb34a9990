package packet

import (
	"math"
	"reflect"
	"slices"
	"strings"
	"testing"

	"funicular/api"
)

// TestShortAndSum is 17.4's first two: fewer than four bytes, and a sum that is not theirs.
func TestShortAndSum(t *testing.T) {
	for _, b := range [][]byte{nil, {}, {0}, {1, 2}, {1, 2, 3}, {0, 0, 0}, {255, 255, 255}} {
		wantNoRead(t, b, api.ErrShort)
	}
	wantNoRead(t, []byte{1, 2, 3, 4, 5}, api.ErrSum)
	for _, b := range [][]byte{{0, 0, 0, 1}, {1, 0, 0, 0}, {128, 0, 0, 0}, {255, 255, 255, 255}} {
		wantNoRead(t, b, api.ErrSum)
	}
	wantNoRead(t, []byte{0, 0, 0, 0}, api.ErrShort) // the sum of nothing is 0: pack's error
	b := written(between12(full()))
	slices.Reverse(b[len(b)-4:])
	wantNoRead(t, b, api.ErrSum) // the highest first
	wantNoRead(t, unsummedBytes(between12(full())), api.ErrSum)
	for n := range 12 {
		wantNoRead(t, append(make([]byte, n), 1, 2, 3, 4), api.ErrSum) // ahead of all that else is wrong
	}
	b = written(between12(small(), full()))
	for n := range len(b) {
		want := api.ErrSum
		if n < 4 {
			want = api.ErrShort
		}
		wantNoRead(t, b[:n], want)
	}
	wantNoRead(t, append(slices.Clone(b), 0), api.ErrSum)
}

// bits is a packet's bytes with each bit turned, one by one.
func bits(t *testing.T, b []byte) {
	t.Helper()
	for i := range 8 * len(b) {
		b[i/8] ^= 1 << (i % 8)
		wantNoRead(t, b, api.ErrSum)
		b[i/8] ^= 1 << (i % 8)
	}
}

// TestTurned is 17.6's: what was turned is no packet.
func TestTurned(t *testing.T) {
	for _, p := range []api.Packet{between12(), between12(small()), between12(full(), small(), full())} {
		bits(t, written(p))
	}
}

// TestCut: bytes that are cut short at each place, with a right sum behind.
func TestCut(t *testing.T) {
	for _, p := range []api.Packet{between12(), between12(small()), between12(full(), small(), full()), between12(many(130)...)} {
		b := unsummedBytes(p)
		for n := range len(b) {
			wantNoRead(t, summed(b[:n]), api.ErrShort)
		}
		wantWritten(t, p, summed(b))
	}
}

// place is a number in a packet's bytes: what is ahead of it, up to what it may be, what may stand behind it, and what Read says of the greatest that it may be.
type place struct {
	what   string
	ahead  []byte
	most   int
	behind []byte
	at     api.Errno
}

// places is all numbers of a packet with one message and two entries, but those of bytes.
func places() []place {
	list := []place{
		{"From", nil, nodes, joined(2, 0), api.OK},
		{"To", joined(2), nodes, joined(0), api.OK},
		{"how many messages", joined(1, 2), mostMsgs, unsummedBytes(between12(many(mostMsgs)...))[4:], api.OK},
	}
	fields := []place{
		{"Kind", nil, 7, nil, api.OK},
		{"Group", nil, parts, nil, api.ErrArg},
		{"Term", nil, mostIndex, nil, api.OK},
		{"At", nil, mostIndex, nil, api.OK},
		{"AtTerm", nil, mostIndex, nil, api.OK},
		{"Commit", nil, mostIndex, nil, api.OK},
		{"Ok", nil, 1, nil, api.OK},
	}
	for i, f := range fields {
		f.ahead = joined(1, 2, 1, slices.Repeat([]byte{1}, i))
		f.behind = joined(slices.Repeat([]byte{1}, 6-i), 1, 1, "e", "d")
		list = append(list, f)
	}
	lead := joined(1, 2, 1, 5, 0, 1, 0, 0, 0, 0)
	return append(list,
		place{"how many entries", lead, mostEntries, joined(slices.Repeat([]byte{1, 0}, mostEntries), "d"), api.OK},
		place{"an entry's term", joined(lead, 2), mostIndex, joined("e", 1, "f", "d"), api.OK},
		place{"the next one's term", joined(lead, 2, 1, "e"), mostIndex, joined("f", "d"), api.OK},
	)
}

// TestNumbers: each number at what it may be, and one above, and far above; and as pack does not write it.
func TestNumbers(t *testing.T) {
	for _, x := range places() {
		b := summed(joined(x.ahead, x.most, x.behind))
		if p, err := Read(b); err != x.at || err == api.OK && !slices.Equal(written(p), b) {
			t.Errorf("%s of %d: %d", x.what, x.most, err)
		}
		for _, n := range []uint64{uint64(x.most) + 1, uint64(x.most) + 1<<32, 1 << 62, 1<<63 - 1, 1 << 63, math.MaxUint64} {
			wantNoRead(t, summed(joined(x.ahead, row(n), x.behind)), api.ErrLimit)
			wantNoRead(t, summed(joined(x.ahead, row(n))), api.ErrLimit)                               // ahead of what lacks behind
			wantNoRead(t, summed(joined(x.ahead, row(n), []byte{128, 0})), api.ErrLimit)               // ahead of what is wrong behind
			wantNoRead(t, summed(joined(x.ahead, row(n), slices.Repeat([]byte{1}, 99))), api.ErrLimit) // ahead of what is left
		}
		for _, wrong := range noRows() {
			wantNoRead(t, summed(joined(x.ahead, wrong, x.behind)), api.ErrRange)
			wantNoRead(t, summed(joined(x.ahead, wrong)), api.ErrRange)
		}
		for n := range 9 {
			wantNoRead(t, summed(joined(x.ahead, slices.Repeat([]byte{255}, n))), api.ErrShort)
		}
	}
}

// noRows is bytes that pack does not write, and refuses with ErrRange.
func noRows() [][]byte {
	return [][]byte{
		{128, 0},
		{129, 0},
		{129, 128, 0},
		append(slices.Repeat([]byte{255}, 9), 2),
		append(slices.Repeat([]byte{255}, 9), 128),
		slices.Repeat([]byte{255}, 10),
	}
}

// TestTexts: how many bytes an entry and a message have, when there are fewer, and when that is not written as pack writes it.
func TestTexts(t *testing.T) {
	lead := joined(1, 2, 1, 5, 0, 1, 0, 0, 0, 0)
	for _, ahead := range [][]byte{joined(lead, 1, 1), joined(lead, 2, 1, "e", 1), joined(lead, 0), joined(lead, 1, 1, "e")} {
		for _, n := range []uint64{3, 127, 128, mostData + 1, 1 << 40, 1 << 62, 1 << 63, math.MaxUint64} {
			wantNoRead(t, summed(joined(ahead, row(n), []byte{0, 0})), api.ErrShort)
		}
		for _, wrong := range noRows() {
			wantNoRead(t, summed(joined(ahead, wrong, make([]byte, 300))), api.ErrRange)
		}
	}
}

// TestLeft: bytes behind the last message.
func TestLeft(t *testing.T) {
	for _, p := range []api.Packet{between12(), between12(small()), between12(full(), full())} {
		for _, left := range [][]byte{{0}, {1}, {128, 0}, {255}, make([]byte, 300), unsummedBytes(p)} {
			wantNoRead(t, summed(joined(unsummedBytes(p), left)), api.ErrSyntax)
		}
	}
}

// refused is packets that can be written, and that Check refuses, with what it says.
func refused() map[string]api.Packet {
	msg := func(do func(m *api.Msg)) api.Packet { return between12(small(), turned(full(), do)) }
	return map[string]api.Packet{
		"From 0":          {From: 0, To: 2},
		"To 0":            {From: 1, To: 0},
		"both 0":          {},
		"the same":        {From: 3, To: 3},
		"Kind 0":          msg(func(m *api.Msg) { m.Kind = 0 }),
		"Group 64":        msg(func(m *api.Msg) { m.Group = parts }),
		"an entry's term": msg(func(m *api.Msg) { m.Entries = []api.Entry{entry(1, ""), entry(0, "")} }),
		"an entry's data": msg(func(m *api.Msg) { m.Entries = []api.Entry{entry(1, strings.Repeat("x", mostData+1))} }),
		"Data":            msg(func(m *api.Msg) { m.Data = make([]byte, mostData+1) }),
	}
}

// TestRefused: what Check refuses, last of all.
func TestRefused(t *testing.T) {
	for what, p := range refused() {
		b := unsummedBytes(p)
		if err := Check(p); err != api.ErrArg {
			t.Errorf("%s: Check: %d", what, err)
		}
		wantNoRead(t, summed(b), api.ErrArg)
		wantNoRead(t, summed(append(slices.Clone(b), 0)), api.ErrSyntax)
		wantNoRead(t, summed(b[:len(b)-1]), api.ErrShort)
		wantNoRead(t, append(summed(b), 0), api.ErrSum)
	}
	wantNoRead(t, summed(joined(0, 8, 0)), api.ErrLimit)   // a number above, ahead of From
	wantNoRead(t, summed(joined(3, 3, 257)), api.ErrLimit) // and of both the same
	wantNoRead(t, summed(joined(1, 2, 1, 0, 65)), api.ErrLimit)
}

// TestOrder: of two errors that lie one behind the other the first one.
func TestOrder(t *testing.T) {
	noRow := []byte{128, 0}
	wantNoRead(t, summed(joined(8, noRow)), api.ErrLimit)
	wantNoRead(t, summed(joined(noRow, 8)), api.ErrRange)
	wantNoRead(t, summed(joined(1, 2, 257, noRow)), api.ErrLimit)
	wantNoRead(t, summed(joined(1, 2, 2, 8, noRow)), api.ErrLimit)
	wantNoRead(t, summed(joined(1, 2, 2, 1, 0, 0, 0, 0, 0, 2, noRow)), api.ErrLimit)
	wantNoRead(t, summed(joined(1, 2, 2, 1, 0, 0, 0, 0, 0, noRow, 9)), api.ErrRange)
	wantNoRead(t, summed(joined(1, 2, 1, 1, 0, 0, 0, 0, 0, 0, 2, 1, 5, "ab")), api.ErrShort) // an entry's bytes ahead of all behind
	wantNoRead(t, summed(joined(1, 2, 1, 1, 0, 0, 0, 0, 0, 0, 2, 1, "ab", mostIndex+1)), api.ErrLimit)
	wantNoRead(t, summed(joined(1, 2, 2, 1, 0, 0, 0, 0, 0, 0, 0, "d", 8, noRow)), api.ErrLimit) // in the next message
	wantNoRead(t, summed(joined(1, 2, 2, 1, 0, 0, 0, 0, 0, 0, 0, noRow, 8)), api.ErrRange)
}

// TestReadMemory is R3's of Read: bytes are neither changed nor kept, and no two lists of an answer share any memory.
func TestReadMemory(t *testing.T) {
	want := between12(full(), small(), full())
	bytes := written(want)
	b := roomy(bytes, 5)
	p, err := Read(b)
	other, _ := Read(b)
	if err != api.OK || !slices.Equal(b, bytes) {
		t.Fatal("bytes were changed")
	}
	wantRoom(t, b, 5)
	scribble([]api.Packet{other})
	if !slices.Equal(b, bytes) || !same(p, want) {
		t.Error("an answer shares memory with the bytes, or with another answer")
	}
	wantRoom(t, b, 5)
	clear(b)
	if !same(p, want) {
		t.Error("an answer shares memory with the bytes")
	}
	clear(p.Msgs[0].Data[:cap(p.Msgs[0].Data)])
	clear(p.Msgs[0].Entries[0].Data[:cap(p.Msgs[0].Entries[0].Data)])
	clear(p.Msgs[0].Entries[:cap(p.Msgs[0].Entries)])
	if !reflect.DeepEqual(plainMsgs(p.Msgs[1:]), plainMsgs(want.Msgs[1:])) {
		t.Error("two lists of an answer share memory")
	}
	wantNoRead(t, roomy(bytes, 5)[:3], api.ErrShort)
	long := roomy(bytes, 5)
	wantNoRead(t, long[:len(long)-1], api.ErrSum) // the byte behind is not read
}
