package host

import (
	"reflect"
	"testing"

	"funicular/api"
	"funicular/disk"
)

// R3: what is handed in is neither changed nor kept, what is handed out is new memory.

// roomy is bytes that have others behind their length in their memory.
func roomy(text string) []byte { return append([]byte(text), "behind"...)[:len(text)] }

// wantWhole fails the test, if bytes of roomy, or what lies behind them, are others.
func wantWhole(t *testing.T, b []byte, text string) {
	t.Helper()
	if string(b) != text || string(b[:len(b)+6]) != text+"behind" {
		t.Errorf("%q became %q", text+"behind", b[:len(b)+6])
	}
}

// spoil writes others into bytes, and behind them.
func spoil(b []byte) {
	for i := range b[:cap(b)] {
		b[:cap(b)][i] = 99
	}
}

func spoilEntries(l []api.Entry) {
	for i := range l[:cap(l)] {
		spoil(l[:cap(l)][i].Data)
		l[:cap(l)][i] = entry(99, "spoilt")
	}
}

func spoilRaft(r api.Raft) {
	spoilEntries(r.Log.Entries)
	spoil(r.Snap)
	for _, l := range [][]int{r.Next, r.Match} {
		for i := range l[:cap(l)] {
			l[:cap(l)][i] = 99
		}
	}
	for i := range r.Granted[:cap(r.Granted)] {
		r.Granted[:cap(r.Granted)][i] = !r.Granted[:cap(r.Granted)][i]
	}
}

func spoilPackets(l []api.Packet) {
	for i, p := range l[:cap(l)] {
		for j, m := range p.Msgs[:cap(p.Msgs)] {
			spoilEntries(m.Entries)
			spoil(m.Data)
			p.Msgs[:cap(p.Msgs)][j] = api.Msg{Kind: 99}
		}
		l[:cap(l)][i] = api.Packet{From: 99}
	}
}

func TestProposeNeitherChangesNorKeeps(t *testing.T) {
	h, d := alone(t, 2)
	data := roomy("paid")
	if _, _, err := h.Propose(1, data); err != api.OK {
		t.Fatal(err)
	}
	wantWhole(t, data, "paid")
	same := unchanged(t, h, d)
	spoil(data)
	same()
	h.Flush()
	wantTake(t, h, 1, Taken{Entries: []api.Entry{entry(1, "paid")}})
}

func TestCompactNeitherChangesNorKeeps(t *testing.T) {
	h, d := alone(t, 2)
	snap := roomy("snap")
	if err := h.Compact(1, 1, snap); err != api.OK {
		t.Fatal(err)
	}
	wantWhole(t, snap, "snap")
	same := unchanged(t, h, d)
	spoil(snap)
	same()
}

func TestReceiveNeitherChangesNorKeeps(t *testing.T) {
	d := disk.New()
	h := mustOpen(t, 2, 3, 2, d)
	a, b, snap := roomy("a"), roomy("b"), roomy("snap")
	entries := []api.Entry{{Term: 1, Data: a}, {Term: 1, Data: b}, entry(1, "behind")}
	p := letter(1, 2, told(0, 1, 0, 0, 1, entries[:2]...), api.Msg{Kind: api.MSnap, Group: 1, Term: 1, At: 4, AtTerm: 1, Data: snap}, api.Msg{})
	p.Msgs = p.Msgs[:2]
	was := ownPackets([]api.Packet{p})
	mustReceive(t, h, p)
	if is := ownPackets([]api.Packet{p}); !reflect.DeepEqual(is, was) {
		t.Errorf("%v became %v", was, is)
	}
	if !reflect.DeepEqual(entries[2], entry(1, "behind")) || !reflect.DeepEqual(p.Msgs[:3][2], api.Msg{From: 1, To: 2}) {
		t.Errorf("behind the entries %v, behind the messages %v", entries[2], p.Msgs[:3][2])
	}
	wantWhole(t, a, "a")
	wantWhole(t, b, "b")
	wantWhole(t, snap, "snap")
	same := unchanged(t, h, d)
	spoilPackets([]api.Packet{p})
	same()
	h.Flush()
	wantTake(t, h, 0, Taken{Entries: []api.Entry{entry(1, "a")}})
	wantTake(t, h, 1, Taken{Base: 4, Snap: []byte("snap")})
}

// leader is host 1 of 3, which leads group 0 in term 1, behind a snapshot, and has an entry that is taken, and one that waits to be told.
func leader(t *testing.T) (*Host, *disk.Disk) {
	t.Helper()
	d := disk.New()
	keep(t, d, 0, hard(1, 1, log(2, 1, entry(1, "paid")), "snap"))
	h := mustOpen(t, 1, 3, 1, d)
	for range 11 {
		h.Tick(0)
	}
	mustReceive(t, h, letter(2, 1, api.Msg{Kind: api.MAskOk, Term: 2, Ok: true}, api.Msg{Kind: api.MVoteOk, Term: 2, Ok: true}))
	wantLeads(t, h, 0)
	mustPropose(t, h, 0, "shipped")
	mustReceive(t, h, letter(3, 1, api.Msg{Kind: api.MAppendOk, Term: 2, At: 5, Ok: true}, api.Msg{Kind: api.MAppendOk, Term: 2}))
	mustReceive(t, h, letter(2, 1, api.Msg{Kind: api.MAppendOk, Term: 2, At: 1})) // it is told the snapshot
	return h, d
}

func TestAnswersAreNewMemory(t *testing.T) {
	h, d := leader(t)
	same := unchanged(t, h, d)
	for range 2 {
		r, err := h.Raft(0)
		if err != api.OK || len(r.Log.Entries) != 3 || len(r.Snap) != 4 || len(r.Next) != 3 {
			t.Fatalf("%v, %d", r, err)
		}
		spoilRaft(r)
		led := h.Leads()
		led[0] = 99
	}
	same()

	twin, _ := leader(t)
	want := ownPackets(twin.Flush())
	got := h.Flush()
	if !reflect.DeepEqual(ownPackets(got), want) {
		t.Errorf("%v, want %v", got, want)
	}
	same = unchanged(t, h, d)
	spoilPackets(got)
	same()
	wantFlush(t, h)

	x, err := h.Take(0)
	if err != api.OK || !reflect.DeepEqual(ownTaken(x), Taken{Base: 2, Snap: []byte("snap"), Entries: []api.Entry{entry(1, "paid"), {Term: 2}, entry(2, "shipped")}}) {
		t.Errorf("Take = %v, %d", x, err)
	}
	spoil(x.Snap)
	spoilEntries(x.Entries)
	same()
}

// What waits is as it was when it was sent, though the member goes on, and its log is cut or compacted.
func TestMessagesStayAsTheyWereSent(t *testing.T) {
	h, _ := leader(t)
	twin, _ := leader(t)
	want := ownPackets(twin.Flush())
	r, _ := h.Raft(0)
	spoilRaft(r)
	mustReceive(t, h, letter(3, 1, told(0, 3, 0, 0, 0)))
	mustReceive(t, h, letter(3, 1, api.Msg{Kind: api.MSnap, Term: 3, At: 9, AtTerm: 3, Data: []byte("other")}))
	got := ownPackets(h.Flush())
	if len(got) != 2 || len(want) != 2 || len(got[1].Msgs) != len(want[1].Msgs)+2 {
		t.Fatalf("%v, behind %v", got, want)
	}
	got[1].Msgs = got[1].Msgs[:len(want[1].Msgs)]
	if !reflect.DeepEqual(got, want) {
		t.Errorf("%v, want %v", got, want)
	}
}
