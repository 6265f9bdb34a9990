package packet

import (
	"encoding/binary"
	"hash/crc32"
	"reflect"
	"slices"
	"testing"

	"funicular/api"
)

// The document's numbers: MaxIndex, MaxData, MaxMsgs, MaxBatch, MaxParts, MaxNodes.
const (
	mostIndex   = 1 << 40
	mostData    = 1 << 16
	mostMsgs    = 256
	mostEntries = 8
	parts       = 64
	nodes       = 7
)

// row is a number's row by the library's own digits of seven bits.
func row(n uint64) []byte { return binary.AppendUvarint(nil, n) }

// joined is bytes of several kinds one behind the other: ints as rows, texts with their length ahead, bytes as they are.
func joined(list ...any) []byte {
	var b []byte
	for _, one := range list {
		switch x := one.(type) {
		case int:
			b = append(b, row(uint64(x))...)
		case string:
			b = append(append(b, row(uint64(len(x)))...), x...)
		case []byte:
			b = append(b, x...)
		}
	}
	return b
}

// summed is bytes with their sum behind, by the library's own sum.
func summed(b []byte) []byte {
	return binary.LittleEndian.AppendUint32(slices.Clone(b), crc32.ChecksumIEEE(b))
}

// unsummedBytes is a packet's bytes ahead of their sum, as 17.3 tells them, whether or not it may be.
func unsummedBytes(p api.Packet) []byte {
	b := joined(p.From, p.To, len(p.Msgs))
	for _, m := range p.Msgs {
		ok := 0
		if m.Ok {
			ok = 1
		}
		b = joined(b, m.Kind, m.Group, m.Term, m.At, m.AtTerm, m.Commit, ok, len(m.Entries))
		for _, e := range m.Entries {
			b = joined(b, e.Term, string(e.Data))
		}
		b = joined(b, string(m.Data))
	}
	return b
}

func written(p api.Packet) []byte { return summed(unsummedBytes(p)) }

func entry(term int, text string) api.Entry { return api.Entry{Term: term, Data: []byte(text)} }

// small is a message that may be sent, from 1 to 2, with zero in each field that may have it.
func small() api.Msg { return api.Msg{Kind: 1, From: 1, To: 2} }

// full is a message that may be sent, from 1 to 2, with something else in each field.
func full() api.Msg {
	return api.Msg{
		Kind: 5, Group: 9, From: 1, To: 2, Term: 300, At: 17, AtTerm: 299, Commit: 16, Ok: true,
		Entries: []api.Entry{entry(299, "paid"), entry(300, "")}, Data: []byte("all"),
	}
}

// between12 is a packet from 1 to 2.
func between12(list ...api.Msg) api.Packet { return api.Packet{From: 1, To: 2, Msgs: list} }

// many is as many messages that may be sent.
func many(n int) []api.Msg { return slices.Repeat([]api.Msg{small()}, n) }

// turned is a message with something done to it.
func turned(m api.Msg, do func(m *api.Msg)) api.Msg {
	do(&m)
	return m
}

func bytesOf(b []byte) []byte { return append([]byte(nil), b...) }

// plainMsg is a message in memory of its own, lists without elements being nil.
func plainMsg(m api.Msg) api.Msg {
	var entries []api.Entry
	for _, e := range m.Entries {
		entries = append(entries, api.Entry{Term: e.Term, Data: bytesOf(e.Data)})
	}
	m.Entries, m.Data = entries, bytesOf(m.Data)
	return m
}

func plainMsgs(l []api.Msg) []api.Msg {
	var list []api.Msg
	for _, m := range l {
		list = append(list, plainMsg(m))
	}
	return list
}

func plain(p api.Packet) api.Packet {
	p.Msgs = plainMsgs(p.Msgs)
	return p
}

func same(a, b api.Packet) bool { return reflect.DeepEqual(plain(a), plain(b)) }

// wantWritten fails the test, unless a packet has these bytes, and they are read as it.
func wantWritten(t *testing.T, p api.Packet, want []byte) {
	t.Helper()
	if err := Check(p); err != api.OK {
		t.Errorf("Check: %d", err)
	}
	if b, err := Put(p); err != api.OK || !slices.Equal(b, want) {
		t.Errorf("Put: %v, %d, wanted %v", head(b), err, head(want))
	}
	if back, err := Read(want); err != api.OK || !same(back, p) {
		t.Errorf("Read of %v: %d", head(want), err)
	}
}

// wantRefused fails the test, unless Check and Put answer an error, and Put nothing beside it.
func wantRefused(t *testing.T, p api.Packet, want api.Errno) {
	t.Helper()
	if err := Check(p); err != want {
		t.Errorf("Check: %d, wanted %d", err, want)
	}
	if b, err := Put(p); err != want || len(b) != 0 {
		t.Errorf("Put: %v, %d, wanted %d", head(b), err, want)
	}
}

// wantNoRead fails the test, unless Read answers an error, and nothing beside it.
func wantNoRead(t *testing.T, b []byte, want api.Errno) {
	t.Helper()
	if p, err := Read(b); err != want || !reflect.DeepEqual(p, api.Packet{}) {
		t.Errorf("Read of %v: %d %d %d, %d, wanted %d", head(b), p.From, p.To, len(p.Msgs), err, want)
	}
}

// head is as much of bytes as may be told.
func head(b []byte) []byte { return b[:min(len(b), 64)] }

// roomy is bytes with something behind their length in their memory.
func roomy(b []byte, behind byte) []byte {
	long := append(bytesOf(b), slices.Repeat([]byte{behind}, 16)...)
	return long[:len(b)]
}

// wantRoom fails the test, unless what lies behind the length is what roomy wrote.
func wantRoom(t *testing.T, b []byte, behind byte) {
	t.Helper()
	for _, c := range b[len(b) : len(b)+16] {
		if c != behind {
			t.Fatal("what lies behind a list was written to")
		}
	}
}
