package host

import (
	"math"
	"reflect"
	"strings"
	"testing"

	"funicular/api"
	"funicular/disk"
	"funicular/packet"
	"funicular/raft"
	"funicular/wal"
)

// The chapter's example

func TestOneNodeTwoGroups(t *testing.T) {
	d := disk.New()
	h := mustOpen(t, 1, 1, 2, d)
	for range 25 {
		h.Tick(0)
	}
	wantLeads(t, h, 0, 1)
	if at, term, err := h.Propose(1, []byte("paid")); at != 2 || term != 1 || err != api.OK {
		t.Errorf("Propose = %d, %d, %d", at, term, err)
	}
	wantTake(t, h, 1, Taken{})
	wantFlush(t, h)
	wantTake(t, h, 1, Taken{Entries: []api.Entry{entry(1, ""), entry(1, "paid")}})
	wantTake(t, h, 0, Taken{Entries: []api.Entry{entry(1, "")}})
	d.Crash(nil)
	h = mustOpen(t, 1, 1, 2, d)
	if r := member(t, h, 1); r.Term != 1 || r.Vote != 1 || len(r.Log.Entries) != 2 {
		t.Errorf("%v", r)
	}
}

// 18.2

// What is hard is on the disk, not synced, as soon as a member is another one; its messages wait, with the group's number.
func TestMemberIsAnotherOne(t *testing.T) {
	d := disk.New()
	h := mustOpen(t, 2, 3, 3, d)
	ask := api.Msg{Kind: api.MVote, Group: 1, Term: 5}
	mustReceive(t, h, letter(3, 2, ask))
	wantFiles(t, d, map[string]file{wal.Segment(1, 1): {bytes: framed(1, 5, 3), loose: len(framed(1, 5, 3))}})
	mustReceive(t, h, letter(1, 2, told(2, 4, 0, 0, 0, entry(4, "paid"))))
	records := framed(1, 4, 0) + framed(2, 1, 4, 4, 'p', 'a', 'i', 'd')
	wantFiles(t, d, map[string]file{
		wal.Segment(1, 1): {bytes: framed(1, 5, 3), loose: len(framed(1, 5, 3))},
		wal.Segment(2, 1): {bytes: records, loose: len(records)},
	})
	wantFlush(t, h,
		letter(2, 1, api.Msg{Kind: api.MAppendOk, Group: 2, Term: 4, At: 1, Ok: true}),
		letter(2, 3, api.Msg{Kind: api.MVoteOk, Group: 1, Term: 5, Ok: true}))
	wantFiles(t, d, map[string]file{wal.Segment(1, 1): {bytes: framed(1, 5, 3)}, wal.Segment(2, 1): {bytes: records}})
	wantFlush(t, h)
}

// Messages wait in the order in which they are sent, of whichever group.
func TestMessagesWaitInTheirOrder(t *testing.T) {
	h := mustOpen(t, 2, 3, 4, disk.New())
	ask := func(g, term int) api.Msg { return api.Msg{Kind: api.MVote, Group: g, Term: term} }
	ok := func(g, term int) api.Msg { return api.Msg{Kind: api.MVoteOk, Group: g, Term: term, Ok: true} }
	mustReceive(t, h, letter(3, 2, ask(3, 1), ask(0, 2)))
	mustReceive(t, h, letter(1, 2, ask(2, 3)))
	mustReceive(t, h, letter(3, 2, ask(1, 4), ask(3, 5), ask(3, 6)))
	wantFlush(t, h, letter(2, 1, ok(2, 3)), letter(2, 3, ok(3, 1), ok(0, 2), ok(1, 4), ok(3, 5), ok(3, 6)))
	mustReceive(t, h, letter(1, 2, ask(0, 7)))
	wantFlush(t, h, letter(2, 1, ok(0, 7)))
}

// 18.3

func TestTick(t *testing.T) {
	rests := map[int]int{-1: 5, -2: 4, -10: 6, math.MinInt: 8, math.MaxInt: 7, most: 6, 1 << 32: 6, 1_000_000: 0, 999_999: 9}
	for draw := range 26 {
		rests[draw] = draw % 10
	}
	for draw, rest := range rests {
		h := mustOpen(t, 2, 3, 12, disk.New())
		var want []api.Raft
		for range 12 {
			want = append(want, fresh(t, 2, 3))
		}
		for range 40 {
			h.Tick(draw)
			for g := range want {
				want[g], _ = raft.Tick(want[g], rest+g)
			}
			wantMembers(t, h, want...)
		}
		for g, r := range members(t, h) {
			if r.Role != api.Asking || r.Wait != 10+(rest+g)%10 {
				t.Errorf("draw %d, group %d: %v", draw, g, r)
			}
		}
	}
}

// All groups ask at once: what they send waits from group 0 on.
func TestTickIsGroupByGroup(t *testing.T) {
	h := mustOpen(t, 2, 3, parts, disk.New())
	for range 11 {
		h.Tick(0)
		wantFlush(t, h)
	}
	h.Tick(0)
	var asks []api.Msg
	for g := range parts {
		asks = append(asks, api.Msg{Kind: api.MAsk, Group: g, Term: 1})
	}
	wantFlush(t, h, letter(2, 1, own(asks)...), letter(2, 3, own(asks)...))
	wantFlush(t, h)
}

func TestTickSavesWhatIsHard(t *testing.T) {
	d := disk.New()
	h := mustOpen(t, 1, 1, 2, d)
	for range 11 {
		wantFiles(t, d, map[string]file{})
		h.Tick(0)
	}
	records := framed(1, 1, 1) + framed(2, 1, 1, 0)
	wantFiles(t, d, map[string]file{wal.Segment(0, 1): {bytes: records, loose: len(records)}, wal.Segment(1, 1): {bytes: records, loose: len(records)}})
}

// 18.4

func TestReceiveIsRefused(t *testing.T) {
	h, d := follower(t)
	same := unchanged(t, h, d)
	vote := api.Msg{Kind: api.MVote, Group: 0, Term: 9}
	other := letter(1, 2, vote, vote)
	other.Msgs[1].From = 3
	many := letter(1, 2)
	for range 257 {
		many.Msgs = append(many.Msgs, api.Msg{Kind: api.MVote, Term: 9, From: 1, To: 2})
	}
	for _, c := range []struct {
		name string
		p    api.Packet
		want api.Errno
	}{
		{"from nobody", letter(0, 2, vote), api.ErrArg},
		{"from 8", letter(8, 2, vote), api.ErrArg},
		{"from itself", letter(2, 2, vote), api.ErrArg},
		{"to 0", letter(1, 0, vote), api.ErrArg},
		{"too many", many, api.ErrLimit},
		{"one of another sender", other, api.ErrArg},
		{"one that may not be sent", letter(1, 2, vote, api.Msg{Kind: 8, Term: 9}), api.ErrArg},
		{"one of group 64", letter(1, 2, vote, api.Msg{Kind: api.MVote, Group: 64, Term: 9}), api.ErrArg},
		{"one of group -1", letter(1, 2, vote, api.Msg{Kind: api.MVote, Group: -1, Term: 9}), api.ErrArg},
		{"to another node", letter(1, 3, vote), api.ErrArg},
		{"to another node, from 7", letter(7, 1, vote), api.ErrArg},
		{"to another node, without messages", letter(1, 3), api.ErrArg},
	} {
		if checked := packet.Check(c.p); checked != c.want && (checked != api.OK || c.p.To == 2) {
			t.Errorf("%s: Check = %d", c.name, checked)
		}
		if err := h.Receive(c.p); err != c.want {
			t.Errorf("%s: Receive = %d, want %d", c.name, err, c.want)
		}
	}
	many.To = 3 // packet.Check's error goes ahead
	for i := range many.Msgs {
		many.Msgs[i].To = 3
	}
	if err := h.Receive(many); err != api.ErrLimit {
		t.Errorf("Receive of many to 3 = %d", err)
	}
	same()
	ok := api.Msg{Kind: api.MAppendOk, Term: 1, At: 2, Ok: true}
	second := ok
	second.Group = 1
	wantFlush(t, h, letter(2, 1, ok, second))
}

// Messages of groups that are not here, and such as a member does nothing with, are passed over; those among them are taken on, one by one.
func TestReceiveMessageByMessage(t *testing.T) {
	d := disk.New()
	h := mustOpen(t, 2, 3, 2, d)
	mustReceive(t, h, letter(1, 2))
	wantMembers(t, h, fresh(t, 2, 3), fresh(t, 2, 3))
	mustReceive(t, h, letter(1, 2,
		api.Msg{Kind: api.MVote, Group: 2, Term: 9},
		told(1, 3, 0, 0, 0, entry(2, "a")),
		api.Msg{Kind: api.MVote, Group: 63, Term: 9},
		told(1, 3, 1, 2, 1, entry(3, "b")),
		told(0, 2, 0, 0, 0, entry(1, "c")),
		told(1, 2, 2, 3, 2, entry(2, "elder")),
	))
	zero, one := fresh(t, 2, 3), fresh(t, 2, 3)
	zero.Term, zero.Lead, zero.Log = 2, 1, log(0, 0, entry(1, "c"))
	one.Term, one.Lead, one.Commit, one.Log = 3, 1, 1, log(0, 0, entry(2, "a"), entry(3, "b"))
	wantMembers(t, h, zero, one)
	wantFlush(t, h, letter(2, 1,
		api.Msg{Kind: api.MAppendOk, Group: 1, Term: 3, At: 1, Ok: true},
		api.Msg{Kind: api.MAppendOk, Group: 1, Term: 3, At: 2, Ok: true},
		api.Msg{Kind: api.MAppendOk, Group: 0, Term: 2, At: 1, Ok: true},
		api.Msg{Kind: api.MAppendOk, Group: 1, Term: 3}))
	same := unchanged(t, h, d)
	mustReceive(t, h, letter(4, 2, told(0, 9, 0, 0, 0), told(1, 9, 0, 0, 0))) // of three nodes there is no 4: raft does nothing
	mustReceive(t, h, letter(1, 2, api.Msg{Kind: api.MVoteOk, Group: 1, Term: 3, Ok: true}, api.Msg{Kind: api.MAppendOk, Group: 0, Term: 2, At: 1, Ok: true}))
	same()
	wantFlush(t, h)
}

// 18.5

func TestPropose(t *testing.T) {
	h, d := alone(t, 3)
	for i, text := range []string{"paid", "", "shipped"} {
		if at, term, err := h.Propose(2, []byte(text)); at != 2+i || term != 1 || err != api.OK {
			t.Errorf("Propose(2, %s) = %d, %d, %d", text, at, term, err)
		}
	}
	if r := member(t, h, 2); r.Commit != 4 || !reflect.DeepEqual(ownEntries(r.Log.Entries), ownEntries([]api.Entry{entry(1, ""), entry(1, "paid"), entry(1, ""), entry(1, "shipped")})) {
		t.Errorf("%v", r)
	}
	if r := member(t, h, 1); r.Commit != 1 {
		t.Errorf("%v", r)
	}
	if name := wal.Segment(2, 1); !strings.HasSuffix(string(d.Read(name)), framed(2, 4, 1, 7, 's', 'h', 'i', 'p', 'p', 'e', 'd')) || d.Loose(name) == 0 {
		t.Errorf("%s: %q", name, d.Read(name))
	}
}

func TestProposeIsRefused(t *testing.T) {
	h, d := alone(t, 3)
	same := unchanged(t, h, d)
	wantNone := func(h *Host, g int, data []byte, want api.Errno) {
		t.Helper()
		if at, term, err := h.Propose(g, data); at != 0 || term != 0 || err != want {
			t.Errorf("Propose(%d, %d bytes) = %d, %d, %d, want %d", g, len(data), at, term, err, want)
		}
	}
	more := make([]byte, full+1)
	for _, g := range []int{math.MinInt, -1, 3, 4, parts, math.MaxInt} {
		wantNone(h, g, nil, api.ErrNone)
		wantNone(h, g, more, api.ErrNone)
	}
	for g := range 3 {
		wantNone(h, g, more, api.ErrLimit)
		wantNone(h, g, append(more, more...), api.ErrLimit)
	}
	same()
	for g := range 3 {
		if at, term, err := h.Propose(g, more[:full]); at != 2 || term != 1 || err != api.OK {
			t.Errorf("Propose(%d, %d bytes) = %d, %d, %d", g, full, at, term, err)
		}
	}

	h, d = follower(t)
	same = unchanged(t, h, d)
	for g := range 2 {
		wantNone(h, g, []byte("paid"), api.ErrLeader)
		wantNone(h, g, more, api.ErrLimit)
	}
	wantNone(h, 2, nil, api.ErrNone)
	same()
}

// 18.6

func TestCompact(t *testing.T) {
	h, d := alone(t, 2)
	mustPropose(t, h, 1, "a")
	mustPropose(t, h, 1, "b")
	h.Flush()
	wantTake(t, h, 1, Taken{Entries: []api.Entry{entry(1, "a"), entry(1, "b")}})
	other := member(t, h, 0)
	mustCompact(t, h, 1, 2, "snap")
	r := member(t, h, 1)
	if r.Log.Base != 2 || r.Log.BaseTerm != 1 || string(r.Snap) != "snap" || len(r.Log.Entries) != 1 || r.Commit != 3 || r.Role != api.Leader {
		t.Errorf("%v", r)
	}
	wantMembers(t, h, other, r)
	records := framed(1, 1, 1) + framed(4, 2, 1) + framed(2, 3, 1, 1, 'b')
	if f := files(d); len(f) != 3 || f[wal.Snapshot(1)] != (file{bytes: framed(2, 1, 4, 's', 'n', 'a', 'p')}) || f[wal.Segment(1, 2)] != (file{bytes: records}) {
		t.Errorf("files %v", f)
	}
	wantTake(t, h, 1, Taken{}) // all that the snapshot stands for was taken
	mustCompact(t, h, 1, 3, "")
	wantTake(t, h, 1, Taken{})
	mustPropose(t, h, 1, "c")
	h.Flush()
	wantTake(t, h, 1, Taken{Entries: []api.Entry{entry(1, "c")}})
}

func TestCompactIsRefused(t *testing.T) {
	h, d := alone(t, 2)
	for _, text := range []string{"a", "b", "c"} {
		mustPropose(t, h, 1, text)
	}
	h.Flush()
	wantTake(t, h, 1, Taken{Entries: []api.Entry{entry(1, "a"), entry(1, "b"), entry(1, "c")}})
	mustCompact(t, h, 1, 2, "snap")
	mustPropose(t, h, 1, "d")
	h.Flush() // 5 is firm, but was not taken
	same := unchanged(t, h, d)
	wantNone := func(g, upto int, snap []byte, want api.Errno) {
		t.Helper()
		if err := h.Compact(g, upto, snap); err != want {
			t.Errorf("Compact(%d, %d, %d bytes) = %d, want %d", g, upto, len(snap), err, want)
		}
	}
	more := make([]byte, full+1)
	for _, g := range []int{math.MinInt, -1, 2, 3, parts, math.MaxInt} {
		wantNone(g, 1, nil, api.ErrNone)
		wantNone(g, 9, more, api.ErrNone)
	}
	for _, upto := range []int{math.MinInt, -1, 0, 1, 2, 5, 6, most, math.MaxInt} {
		wantNone(1, upto, []byte("other"), api.ErrRange)
	}
	wantNone(1, 3, more, api.ErrRange)
	wantNone(1, 4, more, api.ErrRange)
	same()
	mustCompact(t, h, 1, 4, string(more[:full]))
	if r := member(t, h, 1); r.Log.Base != 4 || len(r.Snap) != full {
		t.Errorf("%v", r)
	}
	wantTake(t, h, 1, Taken{Entries: []api.Entry{entry(1, "d")}})
	mustCompact(t, h, 1, 5, "")

	h = mustOpen(t, 1, 1, 2, d) // nothing is taken yet
	for g := range 2 {
		for upto := range 7 {
			wantNone(g, upto, nil, api.ErrRange)
		}
	}
}

// 18.7

// Nothing is told as firm, and nothing goes, ahead of Flush.
func TestFlush(t *testing.T) {
	h, d := follower(t)
	wantTake(t, h, 0, Taken{})
	wantTake(t, h, 1, Taken{})
	if d.Loose(wal.Segment(0, 1)) == 0 || d.Loose(wal.Segment(1, 1)) == 0 {
		t.Errorf("files %v", files(d))
	}
	was := members(t, h)
	ok := func(g, at int) api.Msg { return api.Msg{Kind: api.MAppendOk, Group: g, Term: 1, At: at, Ok: true} }
	wantFlush(t, h, letter(2, 1, ok(0, 2), ok(1, 2)))
	wantMembers(t, h, was...)
	for name, f := range files(d) {
		if f.loose != 0 {
			t.Errorf("%s: %d bytes are not synced", name, f.loose)
		}
	}
	wantFlush(t, h)
	for g := range 2 {
		wantTake(t, h, g, Taken{Entries: []api.Entry{entry(1, "")}})
	}
	mustReceive(t, h, letter(1, 2, told(1, 1, 2, 1, 2)))
	wantTake(t, h, 1, Taken{})
	wantFlush(t, h, letter(2, 1, ok(1, 2)))
	wantTake(t, h, 0, Taken{})
	wantTake(t, h, 1, Taken{Entries: []api.Entry{entry(1, "paid")}})
}

// What waits goes together by node, rising, of each in its order.
func TestFlushSendsTogetherByNode(t *testing.T) {
	h := mustOpen(t, 4, 7, 3, disk.New())
	var want []api.Packet
	for _, to := range []int{1, 2, 3, 5, 6, 7} {
		var msgs []api.Msg
		for g := range 3 {
			msgs = append(msgs, api.Msg{Kind: api.MAsk, Group: g, Term: 1})
		}
		for g := range 2 {
			msgs = append(msgs, api.Msg{Kind: api.MVoteOk, Group: 2 - g, Term: to, Ok: true})
		}
		want = append(want, letter(4, to, msgs...))
	}
	for range 14 {
		h.Tick(0)
	}
	for _, from := range []int{1, 2, 3, 5, 6, 7} {
		mustReceive(t, h, letter(from, 4, api.Msg{Kind: api.MVote, Group: 2, Term: from}, api.Msg{Kind: api.MVote, Group: 1, Term: from}))
	}
	wantFlush(t, h, want...)
	wantFlush(t, h)
}

// As many as wait go: packet.Together says nothing of how many a packet may have.
func TestFlushSendsAllThatWaits(t *testing.T) {
	h := mustOpen(t, 1, 2, parts, disk.New())
	for range 11 {
		h.Tick(0)
	}
	for range 4 {
		var asks []api.Msg
		for g := range parts {
			asks = append(asks, api.Msg{Kind: api.MVote, Group: g, Term: 5})
		}
		mustReceive(t, h, letter(2, 1, asks...))
	}
	list := h.Flush()
	if len(list) != 1 || list[0].To != 2 || len(list[0].Msgs) != 5*parts {
		t.Fatalf("%d packets", len(list))
	}
	for i, m := range list[0].Msgs {
		if m.Group != i%parts || (m.Kind == api.MAsk) != (i < parts) {
			t.Errorf("message %d: %v", i, m)
		}
	}
}

// 18.8

func TestTakeAndRaftOfNoGroup(t *testing.T) {
	h, _ := alone(t, 3)
	mustPropose(t, h, 2, "paid")
	h.Flush()
	for _, g := range []int{math.MinInt, -parts, -1, 3, 4, parts, math.MaxInt} {
		if x, err := h.Take(g); err != api.ErrNone || !reflect.DeepEqual(x, Taken{}) {
			t.Errorf("Take(%d) = %v, %d", g, x, err)
		}
		if r, err := h.Raft(g); err != api.ErrNone || !reflect.DeepEqual(r, api.Raft{}) {
			t.Errorf("Raft(%d) = %v, %d", g, r, err)
		}
	}
	wantTake(t, h, 0, Taken{})
	wantTake(t, h, 2, Taken{Entries: []api.Entry{entry(1, "paid")}})
}

// A snapshot that came is taken where it is firm; ahead of Flush there is nothing, neither of it nor of what it stands for.
func TestTakeASnapshotThatCame(t *testing.T) {
	h, d := follower(t)
	h.Flush()
	wantTake(t, h, 0, Taken{Entries: []api.Entry{entry(1, "")}})
	snap := api.Msg{Kind: api.MSnap, Group: 0, Term: 3, At: 7, AtTerm: 2, Commit: 9, Data: []byte("snap")}
	mustReceive(t, h, letter(3, 2, told(0, 2, 2, 1, 2), snap, told(0, 3, 7, 2, 8, entry(3, "h"), entry(3, "i"))))
	wantTake(t, h, 0, Taken{})
	if string(d.Read(wal.Snapshot(0))) != framed(7, 2, 4, 's', 'n', 'a', 'p') {
		t.Errorf("files %v", files(d))
	}
	h.Flush()
	wantTake(t, h, 0, Taken{Base: 7, Snap: []byte("snap"), Entries: []api.Entry{entry(3, "h")}})
	wantTake(t, h, 1, Taken{Entries: []api.Entry{entry(1, "")}})

	mustReceive(t, h, letter(3, 2, told(0, 3, 9, 3, 9)))
	h.Flush()
	wantTake(t, h, 0, Taken{Entries: []api.Entry{entry(3, "i")}})
	snap.At, snap.Data = 8, nil // which stands for what is taken already
	mustReceive(t, h, letter(3, 2, snap))
	h.Flush()
	wantTake(t, h, 0, Taken{})
}

// What was firm ahead of a snapshot that came, but was not taken, is in it.
func TestTakeWhatASnapshotStandsFor(t *testing.T) {
	h, _ := follower(t)
	mustReceive(t, h, letter(1, 2, told(0, 1, 2, 1, 2)))
	h.Flush()
	mustReceive(t, h, letter(1, 2, api.Msg{Kind: api.MSnap, Group: 0, Term: 1, At: 5, AtTerm: 1, Commit: 5}))
	wantTake(t, h, 0, Taken{})
	h.Flush()
	wantTake(t, h, 0, Taken{Base: 5})
	mustCompactIsRefused(t, h, 0, 5) // the log begins there already
}

func mustCompactIsRefused(t *testing.T, h *Host, g, upto int) {
	t.Helper()
	if err := h.Compact(g, upto, nil); err != api.ErrRange {
		t.Errorf("Compact(%d, %d) = %d", g, upto, err)
	}
}

// A snapshot whose place was taken entry by entry is not taken again; one a place further is.
func TestTakeAtTheEdgeOfASnapshot(t *testing.T) {
	for _, c := range []struct {
		at   int
		want Taken
	}{
		{3, Taken{Base: 3, Snap: []byte("snap")}},
		{2, Taken{}},
	} {
		h, _ := follower(t)
		mustReceive(t, h, letter(1, 2, told(0, 1, 2, 1, 2)))
		h.Flush()
		wantTake(t, h, 0, Taken{Entries: []api.Entry{entry(1, ""), entry(1, "paid")}})
		mustReceive(t, h, letter(1, 2, api.Msg{Kind: api.MSnap, Group: 0, Term: 1, At: c.at, AtTerm: 1, Commit: c.at, Data: []byte("snap")}))
		h.Flush()
		wantTake(t, h, 0, c.want)
	}
}

// Behind Open all is taken from where the log begins on, as far as it is known to be committed.
func TestTakeBehindOpen(t *testing.T) {
	h, d := alone(t, 1)
	for _, text := range []string{"a", "b", "c"} {
		mustPropose(t, h, 0, text)
	}
	h.Flush()
	wantTake(t, h, 0, Taken{Entries: []api.Entry{entry(1, "a"), entry(1, "b"), entry(1, "c")}})
	mustCompact(t, h, 0, 3, "snap")
	d.Crash(nil)
	h = mustOpen(t, 1, 1, 1, d)
	wantTake(t, h, 0, Taken{Base: 3, Snap: []byte("snap")})
	for range 11 {
		h.Tick(0)
	}
	wantTake(t, h, 0, Taken{})
	h.Flush()
	wantTake(t, h, 0, Taken{Entries: []api.Entry{entry(1, "c"), entry(2, "")}})

	h = mustOpen(t, 1, 1, 1, d)
	for range 11 {
		h.Tick(0)
	}
	h.Flush()
	wantTake(t, h, 0, Taken{Base: 3, Snap: []byte("snap"), Entries: []api.Entry{entry(1, "c"), entry(2, ""), entry(3, "")}})
}

func TestLeads(t *testing.T) {
	h := mustOpen(t, 1, 2, parts, disk.New())
	wantLeads(t, h)
	led := []int{}
	for _, g := range []int{40, 3, 0, 63, 17} {
		mustReceive(t, h, letter(2, 1, api.Msg{Kind: api.MAskOk, Group: g, Term: 1, Ok: true})) // nobody asked: nothing
	}
	wantLeads(t, h, led...)
	for range 11 {
		h.Tick(0)
	}
	for _, g := range []int{40, 3, 0, 63, 17} {
		mustReceive(t, h, letter(2, 1, api.Msg{Kind: api.MAskOk, Group: g, Term: 1, Ok: true}))
		wantLeads(t, h, led...)
	}
	mustReceive(t, h, letter(2, 1, api.Msg{Kind: api.MVoteOk, Group: 40, Term: 1, Ok: true}, api.Msg{Kind: api.MVoteOk, Group: 3, Term: 1, Ok: true}))
	wantLeads(t, h, 3, 40)
	mustReceive(t, h, letter(2, 1, api.Msg{Kind: api.MVoteOk, Group: 0, Term: 1, Ok: true}))
	wantLeads(t, h, 0, 3, 40)
	mustReceive(t, h, letter(2, 1, told(3, 2, 0, 0, 0)))
	wantLeads(t, h, 0, 40)

	h, _ = alone(t, parts)
	for g := range parts {
		led = append(led, g)
	}
	wantLeads(t, h, led...)
}
