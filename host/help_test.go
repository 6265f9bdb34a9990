package host

import (
	"encoding/binary"
	"hash/crc32"
	"reflect"
	"slices"
	"strconv"
	"testing"

	"funicular/api"
	"funicular/disk"
	"funicular/raft"
	"funicular/wal"
)

// most is MaxIndex, parts MaxParts, and full MaxData, by the numbers that the document gives them.
const (
	most  = 1 << 40
	parts = 64
	full  = 1 << 16
)

// Things of their own memory, lists without elements being nil

func own[T any](l []T) []T { return append([]T(nil), l...) }

func ownEntries(l []api.Entry) []api.Entry {
	var list []api.Entry
	for _, e := range l {
		list = append(list, api.Entry{Term: e.Term, Data: own(e.Data)})
	}
	return list
}

func ownRaft(r api.Raft) api.Raft {
	r.Log.Entries, r.Snap = ownEntries(r.Log.Entries), own(r.Snap)
	r.Granted, r.Next, r.Match = own(r.Granted), own(r.Next), own(r.Match)
	return r
}

func ownMsgs(l []api.Msg) []api.Msg {
	var list []api.Msg
	for _, m := range l {
		m.Entries, m.Data = ownEntries(m.Entries), own(m.Data)
		list = append(list, m)
	}
	return list
}

func ownPackets(l []api.Packet) []api.Packet {
	var list []api.Packet
	for _, p := range l {
		list = append(list, api.Packet{From: p.From, To: p.To, Msgs: ownMsgs(p.Msgs)})
	}
	return list
}

func ownTaken(x Taken) Taken {
	return Taken{Base: x.Base, Snap: own(x.Snap), Entries: ownEntries(x.Entries)}
}

// Logs, entries and messages

func entry(term int, text string) api.Entry { return api.Entry{Term: term, Data: []byte(text)} }

func log(base, baseTerm int, entries ...api.Entry) api.Log {
	return api.Log{Base: base, BaseTerm: baseTerm, Entries: entries}
}

func hard(term, vote int, l api.Log, snap string) api.Hard {
	return api.Hard{Term: term, Vote: vote, Log: l, Snap: []byte(snap)}
}

// letter is a packet from a node to another one; its messages are from and to these.
func letter(from, to int, msgs ...api.Msg) api.Packet {
	for i := range msgs {
		msgs[i].From, msgs[i].To = from, to
	}
	return api.Packet{From: from, To: to, Msgs: msgs}
}

// told is what one that leads a group in a term tells behind a place.
func told(g, term, at, atTerm, commit int, entries ...api.Entry) api.Msg {
	return api.Msg{Kind: api.MAppend, Group: g, Term: term, At: at, AtTerm: atTerm, Commit: commit, Entries: entries}
}

// Disks

// file is a file's bytes, and how many of them, the last ones, are not synced.
type file struct {
	bytes string
	loose int
}

func (f file) String() string { return strconv.Quote(f.bytes) + " " + strconv.Itoa(f.loose) }

func files(d *disk.Disk) map[string]file {
	all := map[string]file{}
	for _, name := range d.Names() {
		all[name] = file{bytes: string(d.Read(name)), loose: d.Loose(name)}
	}
	return all
}

func diskOf(all map[string]file) *disk.Disk {
	d := disk.New()
	for name, f := range all {
		d.Replace(name, []byte(f.bytes[:len(f.bytes)-f.loose]))
		d.Append(name, []byte(f.bytes[len(f.bytes)-f.loose:]))
	}
	return d
}

func wantFiles(t *testing.T, d *disk.Disk, want map[string]file) {
	t.Helper()
	if got := files(d); !reflect.DeepEqual(got, want) {
		t.Errorf("files %v, want %v", got, want)
	}
}

// framed is a record's bytes as chapter 5 has them, by the library's sum.
func framed(body ...byte) string {
	size := binary.LittleEndian.AppendUint32(nil, uint32(len(body)))
	sum := crc32.Update(crc32.ChecksumIEEE(size), crc32.IEEETable, body)
	return string(append(binary.LittleEndian.AppendUint32(size, sum), body...))
}

// keep has a group's records on a disk be these, one behind the other, synced.
func keep(t *testing.T, d *disk.Disk, g int, list ...api.Hard) {
	t.Helper()
	w, err := wal.Open(d, g)
	for _, h := range list {
		if err == api.OK {
			err = w.Save(h)
		}
	}
	if err != api.OK {
		t.Fatalf("group %d: %d", g, err)
	}
	w.Flush()
}

// Hosts

func mustOpen(t *testing.T, id, n, groups int, d *disk.Disk) *Host {
	t.Helper()
	h, err := Open(id, n, groups, d)
	if h == nil || err != api.OK {
		t.Fatalf("Open(%d, %d, %d) = %v, %d", id, n, groups, h, err)
	}
	return h
}

// wantNoOpen fails the test, if a disk is not refused so, or if it is changed.
func wantNoOpen(t *testing.T, id, n, groups int, d *disk.Disk, want api.Errno) {
	t.Helper()
	var had map[string]file
	if d != nil {
		had = files(d)
	}
	if h, err := Open(id, n, groups, d); h != nil || err != want {
		t.Errorf("Open(%d, %d, %d) of %v = %v, %d, want nil, %d", id, n, groups, had, h, err, want)
	}
	if d != nil {
		wantFiles(t, d, had)
	}
}

func mustReceive(t *testing.T, h *Host, p api.Packet) {
	t.Helper()
	if err := h.Receive(p); err != api.OK {
		t.Fatalf("Receive(%v) = %d", p, err)
	}
}

func mustPropose(t *testing.T, h *Host, g int, text string) int {
	t.Helper()
	at, _, err := h.Propose(g, []byte(text))
	if err != api.OK {
		t.Fatalf("Propose(%d, %s) = %d", g, text, err)
	}
	return at
}

func mustCompact(t *testing.T, h *Host, g, upto int, snap string) {
	t.Helper()
	if err := h.Compact(g, upto, []byte(snap)); err != api.OK {
		t.Fatalf("Compact(%d, %d, %s) = %d", g, upto, snap, err)
	}
}

// member is a group's member here, in its own memory.
func member(t *testing.T, h *Host, g int) api.Raft {
	t.Helper()
	r, err := h.Raft(g)
	if err != api.OK {
		t.Fatalf("Raft(%d) = %d", g, err)
	}
	return ownRaft(r)
}

// members is all members, from group 0 on.
func members(t *testing.T, h *Host) []api.Raft {
	t.Helper()
	var list []api.Raft
	for g := range len(h.groups) {
		list = append(list, member(t, h, g))
	}
	return list
}

func wantMembers(t *testing.T, h *Host, want ...api.Raft) {
	t.Helper()
	for i := range want {
		want[i] = ownRaft(want[i])
	}
	if got := members(t, h); !reflect.DeepEqual(got, want) {
		t.Errorf("members %v, want %v", got, want)
	}
}

func wantFlush(t *testing.T, h *Host, want ...api.Packet) {
	t.Helper()
	if got := h.Flush(); !reflect.DeepEqual(ownPackets(got), ownPackets(want)) {
		t.Errorf("Flush() = %v, want %v", got, want)
	}
}

// wantTake fails the test, if something else is taken, or if there is something to be taken once more.
func wantTake(t *testing.T, h *Host, g int, want Taken) {
	t.Helper()
	if got, err := h.Take(g); err != api.OK || !reflect.DeepEqual(ownTaken(got), ownTaken(want)) {
		t.Errorf("Take(%d) = %v, %d, want %v, 0", g, got, err, want)
	}
	if got, err := h.Take(g); err != api.OK || !reflect.DeepEqual(ownTaken(got), Taken{}) {
		t.Errorf("Take(%d) once more = %v, %d", g, got, err)
	}
}

func wantLeads(t *testing.T, h *Host, want ...int) {
	t.Helper()
	if got := h.Leads(); !slices.Equal(got, want) {
		t.Errorf("Leads() = %v, want %v", got, want)
	}
}

// image is all that can be told of a host without changing it.
type image struct {
	members []api.Raft
	leads   []int
	files   map[string]file
}

func imageOf(t *testing.T, h *Host, d *disk.Disk) image {
	t.Helper()
	return image{members: members(t, h), leads: own(h.Leads()), files: files(d)}
}

// unchanged fails the test at its end, if a host is another one than now.
func unchanged(t *testing.T, h *Host, d *disk.Disk) func() {
	t.Helper()
	was := imageOf(t, h, d)
	return func() {
		t.Helper()
		if is := imageOf(t, h, d); !reflect.DeepEqual(is, was) {
			t.Errorf("%v became %v", was, is)
		}
	}
}

// alone is a host alone in its groups, all of which it leads; its first entries are synced and taken.
func alone(t *testing.T, groups int) (*Host, *disk.Disk) {
	t.Helper()
	d := disk.New()
	h := mustOpen(t, 1, 1, groups, d)
	for range 11 {
		h.Tick(0)
	}
	h.Flush()
	for g := range groups {
		wantTake(t, h, g, Taken{Entries: []api.Entry{entry(1, "")}})
	}
	return h, d
}

// follower is host 2 of 3, of two groups, that follows 1 in term 1, with two entries in each, of which the first is committed; nothing of this is synced.
func follower(t *testing.T) (*Host, *disk.Disk) {
	t.Helper()
	d := disk.New()
	h := mustOpen(t, 2, 3, 2, d)
	for g := range 2 {
		mustReceive(t, h, letter(1, 2, told(g, 1, 0, 0, 1, entry(1, ""), entry(1, "paid"))))
	}
	return h, d
}

// fresh is a member of a group that has seen nothing.
func fresh(t *testing.T, id, n int) api.Raft {
	t.Helper()
	r, err := raft.New(id, n)
	if err != api.OK {
		t.Fatal(err)
	}
	return r
}
