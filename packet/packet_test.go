package packet

import (
	"math"
	"slices"
	"strings"
	"testing"

	"funicular/api"
)

// sent is a message and whether it may be sent.
type sent struct {
	what string
	m    api.Msg
	may  bool
}

// numbersSent is a message with each of the numbers that a field may be, and that it may not.
func numbersSent(what string, field func(m *api.Msg) *int, may, mayNot []int) []sent {
	var list []sent
	for _, base := range []api.Msg{small(), full()} {
		for i, n := range append(slices.Clone(may), mayNot...) {
			m := turned(plainMsg(base), func(m *api.Msg) { *field(m) = n })
			list = append(list, sent{what, m, i < len(may)})
		}
	}
	return list
}

// allSent is messages at all edges of 17.1.
func allSent() []sent {
	far := []int{-1, math.MinInt, math.MaxInt}
	index := []int{0, 1, 127, 128, mostIndex - 1, mostIndex}
	noIndex := append([]int{mostIndex + 1}, far...)
	list := slices.Concat(
		numbersSent("Kind", func(m *api.Msg) *int { return &m.Kind }, []int{1, 2, 3, 4, 5, 6, 7}, append([]int{0, 8}, far...)),
		numbersSent("Group", func(m *api.Msg) *int { return &m.Group }, []int{0, 1, parts - 1}, append([]int{parts, parts + 1}, far...)),
		numbersSent("Term", func(m *api.Msg) *int { return &m.Term }, index, noIndex),
		numbersSent("At", func(m *api.Msg) *int { return &m.At }, index, noIndex),
		numbersSent("AtTerm", func(m *api.Msg) *int { return &m.AtTerm }, index, noIndex),
		numbersSent("Commit", func(m *api.Msg) *int { return &m.Commit }, index, noIndex),
	)
	for kind := 1; kind <= 7; kind++ {
		list = append(list, listsSent(turned(small(), func(m *api.Msg) { m.Kind = kind }))...)
		list = append(list, listsSent(turned(full(), func(m *api.Msg) { m.Kind = kind }))...)
	}
	return list
}

// listsSent is a message with the lists that it may have, and may not, whatever its Kind.
func listsSent(base api.Msg) []sent {
	with := func(entries ...api.Entry) api.Msg {
		return turned(base, func(m *api.Msg) { m.Entries = entries })
	}
	data := func(n int) api.Msg {
		return turned(base, func(m *api.Msg) { m.Data = make([]byte, n) })
	}
	one, long := entry(1, "a"), strings.Repeat("x", mostData)
	list := []sent{
		{"no entries", with(), true},
		{"empty list", with([]api.Entry{}...), true},
		{"eight", with(slices.Repeat([]api.Entry{one}, mostEntries)...), true},
		{"nine", with(slices.Repeat([]api.Entry{one}, mostEntries+1)...), false},
		{"nine, of which one may not be", with(append(slices.Repeat([]api.Entry{one}, mostEntries), entry(0, ""))...), false},
		{"falling terms", with(entry(9, ""), entry(3, "")), true}, // no log is asked for
		{"bytes", with(entry(1, long)), true},
		{"bytes too many", with(entry(1, long+"x")), false},
		{"bytes too many at the last", with(one, one, entry(1, long+"x")), false},
		{"data", data(mostData), true},
		{"data too many", data(mostData + 1), false},
		{"both", turned(data(mostData), func(m *api.Msg) { m.Entries = []api.Entry{entry(1, long)} }), true},
	}
	for _, term := range []int{1, 2, mostIndex} {
		list = append(list, sent{"entry's term", with(entry(term, "b")), true}, sent{"last's term", with(one, one, entry(term, "")), true})
	}
	for _, term := range []int{0, -1, mostIndex + 1, math.MinInt, math.MaxInt} {
		list = append(list, sent{"entry's term", with(entry(term, "b")), false}, sent{"last's term", with(one, one, entry(term, "")), false})
	}
	return list
}

// TestMayBeSent is 17.1, alone, and as the first, the midst and the last of three.
func TestMayBeSent(t *testing.T) {
	for _, s := range allSent() {
		for _, p := range []api.Packet{between12(s.m), between12(s.m, small(), small()), between12(small(), s.m, full()), between12(full(), full(), s.m)} {
			want := api.OK
			if !s.may {
				want = api.ErrArg
			}
			if err := Check(p); err != want {
				t.Errorf("%s of kind %d, group %d, term %d, at %d, at term %d, commit %d: %d, wanted %d", s.what, s.m.Kind, s.m.Group, s.m.Term, s.m.At, s.m.AtTerm, s.m.Commit, err, want)
			}
		}
		if !s.may {
			wantRefused(t, between12(s.m), api.ErrArg)
			continue
		}
		wantWritten(t, between12(s.m), written(between12(s.m)))
	}
}

// TestWhoAndWhom is what 17.2 says of From and To, with messages that have the same ones, and without any.
func TestWhoAndWhom(t *testing.T) {
	list := []int{math.MinInt, -1, 0, 1, 2, 3, 4, 5, 6, nodes, nodes + 1, 9, 255, 256, 257, math.MaxInt}
	for _, from := range list {
		for _, to := range list {
			m := turned(full(), func(m *api.Msg) { m.From, m.To = from, to })
			for _, msgs := range [][]api.Msg{nil, {}, {m}, {m, m}} {
				p := api.Packet{From: from, To: to, Msgs: msgs}
				if from < 1 || from > nodes || to < 1 || to > nodes || from == to {
					wantRefused(t, p, api.ErrArg)
				} else {
					wantWritten(t, p, written(p))
				}
			}
		}
	}
}

// TestHowMany is what 17.2 says of how many there are, and which error is first.
func TestHowMany(t *testing.T) {
	wrong := turned(small(), func(m *api.Msg) { m.Kind = 0 })
	other := turned(small(), func(m *api.Msg) { m.From = 3 })
	p := between12(many(mostMsgs)...)
	wantWritten(t, p, written(p))
	wantRefused(t, between12(many(mostMsgs+1)...), api.ErrLimit)
	wantRefused(t, between12(many(1000)...), api.ErrLimit)
	for _, bad := range []api.Msg{wrong, other} {
		wantRefused(t, between12(append(many(mostMsgs-1), bad)...), api.ErrArg)
		wantRefused(t, between12(append(many(mostMsgs), bad)...), api.ErrLimit)
		wantRefused(t, between12(append([]api.Msg{bad}, many(mostMsgs)...)...), api.ErrLimit)
		wantRefused(t, between12(slices.Repeat([]api.Msg{bad}, mostMsgs+1)...), api.ErrLimit)
	}
	for _, ends := range [][2]int{{0, 2}, {1, 0}, {8, 2}, {1, 8}, {1, 1}} {
		p := api.Packet{From: ends[0], To: ends[1], Msgs: many(mostMsgs + 1)}
		wantRefused(t, p, api.ErrArg)
	}
}

// TestOthers is what 17.2 says of messages that have another From or To than the packet.
func TestOthers(t *testing.T) {
	for from := -1; from <= nodes+1; from++ {
		for to := -1; to <= nodes+1; to++ {
			if from == 1 && to == 2 {
				continue
			}
			m := turned(full(), func(m *api.Msg) { m.From, m.To = from, to })
			wantRefused(t, between12(m), api.ErrArg)
			wantRefused(t, between12(m, full()), api.ErrArg)
			wantRefused(t, between12(full(), m), api.ErrArg)
			wantRefused(t, between12(full(), m, full()), api.ErrArg)
		}
	}
}

// TestBytes is 17.3, byte by byte.
func TestBytes(t *testing.T) {
	wantWritten(t, between12(), []byte{1, 2, 0, 0xa7, 0xd1, 0xb5, 0xcc})
	wantWritten(t, api.Packet{From: 7, To: 6}, summed([]byte{7, 6, 0}))
	wantWritten(t, between12(small()), summed([]byte{1, 2, 1, 1, 0, 0, 0, 0, 0, 0, 0, 0}))
	m := api.Msg{Kind: 1, Group: 2, From: 7, To: 3, Term: 3, At: 4, AtTerm: 5, Commit: 6, Ok: true, Data: []byte{8, 9}}
	wantWritten(t, api.Packet{From: 7, To: 3, Msgs: []api.Msg{m}}, summed([]byte{7, 3, 1, 1, 2, 3, 4, 5, 6, 1, 0, 2, 8, 9}))
	m.Ok = false
	wantWritten(t, api.Packet{From: 7, To: 3, Msgs: []api.Msg{m}}, summed([]byte{7, 3, 1, 1, 2, 3, 4, 5, 6, 0, 0, 2, 8, 9}))
	wantWritten(t, between12(full()), summed([]byte{
		1, 2, 1,
		5, 9, 172, 2, 17, 171, 2, 16, 1, 2,
		171, 2, 4, 'p', 'a', 'i', 'd',
		172, 2, 0,
		3, 'a', 'l', 'l',
	}))
	wantWritten(t, between12(small(), full(), small()), summed([]byte{
		1, 2, 3,
		1, 0, 0, 0, 0, 0, 0, 0, 0,
		5, 9, 172, 2, 17, 171, 2, 16, 1, 2, 171, 2, 4, 'p', 'a', 'i', 'd', 172, 2, 0, 3, 'a', 'l', 'l',
		1, 0, 0, 0, 0, 0, 0, 0, 0,
	}))
	most := api.Msg{Kind: 7, Group: 63, From: 1, To: 2, Term: mostIndex, At: mostIndex, AtTerm: mostIndex, Commit: mostIndex, Ok: true, Entries: []api.Entry{{Term: mostIndex}}}
	top := []byte{128, 128, 128, 128, 128, 32}
	wantWritten(t, between12(most), summed(slices.Concat([]byte{1, 2, 1, 7, 63}, top, top, top, top, []byte{1, 1}, top, []byte{0, 0})))
	long := slices.Repeat([]byte{200}, 300)
	m = api.Msg{Kind: 7, From: 1, To: 2, Data: long}
	wantWritten(t, between12(m), summed(slices.Concat([]byte{1, 2, 1, 7, 0, 0, 0, 0, 0, 0, 0, 172, 2}, long)))
	b, err := Put(between12(many(mostMsgs)...))
	if err != api.OK || !slices.Equal(b[:4], []byte{1, 2, 128, 2}) || len(b) != 4+9*mostMsgs+4 {
		t.Errorf("of 256: %v, %d, %d", head(b), len(b), err)
	}
}

// TestLists is R3's: a nil list and an empty one are the same.
func TestLists(t *testing.T) {
	empty := api.Msg{Kind: 5, From: 1, To: 2, Entries: []api.Entry{}, Data: []byte{}}
	bare := api.Msg{Kind: 5, From: 1, To: 2}
	noData := turned(bare, func(m *api.Msg) { m.Entries = []api.Entry{{Term: 1}, {Term: 1, Data: []byte{}}} })
	a, err := Put(between12(empty, bare, noData))
	b, err2 := Put(between12(bare, empty, noData))
	if err != api.OK || err2 != api.OK || !slices.Equal(a, b) {
		t.Errorf("%v, %d, and %v, %d", a, err, b, err2)
	}
	wantWritten(t, between12(empty, bare, noData), b)
}

// handedIn is a packet all of whose lists have something behind their lengths, and a look at whether it is still what it was.
func handedIn() (api.Packet, func(t *testing.T)) {
	m := turned(full(), func(m *api.Msg) {
		m.Entries = append(m.Entries, entry(77, "behind"))[:2]
		m.Entries[0].Data = roomy([]byte("paid"), 99)
		m.Data = roomy([]byte("all"), 98)
	})
	p := between12(append([]api.Msg{m, small()}, full())[:2]...)
	was := plain(p)
	return p, func(t *testing.T) {
		t.Helper()
		if !same(p, was) {
			t.Error("what was handed in was changed")
		}
		wantRoom(t, m.Entries[0].Data, 99)
		wantRoom(t, m.Data, 98)
		if e := m.Entries[:3][2]; e.Term != 77 || string(e.Data) != "behind" {
			t.Error("what lies behind Entries was changed")
		}
		if last := p.Msgs[:3][2]; last.Term != full().Term {
			t.Error("what lies behind Msgs was changed")
		}
	}
}

// TestHandedIn is R3's of Check and Put: what is handed in is neither changed, nor kept, nor read behind its length.
func TestHandedIn(t *testing.T) {
	p, look := handedIn()
	want := written(p)
	if err := Check(p); err != api.OK {
		t.Error(err)
	}
	look(t)
	b, err := Put(p)
	if err != api.OK || !slices.Equal(b, want) {
		t.Errorf("%v, %d", b, err)
	}
	look(t)
	other, _ := Put(p)
	clear(other[:cap(other)])
	if !slices.Equal(b, want) {
		t.Error("two answers share memory")
	}
	clear(b[:cap(b)])
	look(t)
	b, _ = Put(p)
	clear(p.Msgs[0].Data)
	clear(p.Msgs[0].Entries[0].Data)
	clear(p.Msgs)
	if !slices.Equal(b, want) {
		t.Error("an answer shares memory with what was handed in")
	}
}
