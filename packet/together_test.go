package packet

import (
	"math"
	"math/rand"
	"reflect"
	"slices"
	"testing"

	"funicular/api"
)

// msg is a message from one to another, with a number by which it is told.
func msg(from, to, number int) api.Msg {
	return api.Msg{Kind: 5, Group: 3, From: from, To: to, Term: number, Entries: []api.Entry{entry(1, "e")}, Data: []byte("d")}
}

// wantTogether fails the test, unless these packets come of messages.
func wantTogether(t *testing.T, from int, l []api.Msg, want ...api.Packet) {
	t.Helper()
	got := Together(from, l)
	if len(got) != len(want) {
		t.Fatalf("%d packets, wanted %d: %v", len(got), len(want), got)
	}
	for i := range got {
		if !same(got[i], want[i]) {
			t.Errorf("packet %d: %v, wanted %v", i, got[i], want[i])
		}
	}
}

// TestTogether is 17.5: several nodes, rising, the messages in their order.
func TestTogether(t *testing.T) {
	wantTogether(t, 1, nil)
	wantTogether(t, 1, []api.Msg{})
	wantTogether(t, 2, []api.Msg{msg(2, 7, 1), msg(2, 1, 2), msg(2, 7, 3), msg(2, 3, 4), msg(2, 1, 5), msg(2, 7, 0)},
		api.Packet{From: 2, To: 1, Msgs: []api.Msg{msg(2, 1, 2), msg(2, 1, 5)}},
		api.Packet{From: 2, To: 3, Msgs: []api.Msg{msg(2, 3, 4)}},
		api.Packet{From: 2, To: 7, Msgs: []api.Msg{msg(2, 7, 1), msg(2, 7, 3), msg(2, 7, 0)}})
	for from := 1; from <= nodes; from++ {
		var all []api.Msg
		var want []api.Packet
		for to := nodes; to >= 1; to-- {
			all = append(all, msg(from, to, to), msg(from, to, to))
			if to != from {
				want = slices.Insert(want, 0, api.Packet{From: from, To: to, Msgs: []api.Msg{msg(from, to, to), msg(from, to, to)}})
			}
		}
		wantTogether(t, from, all, want...)
	}
}

// TestNotTogether: messages to itself, to nodes that there are not, and from others are in no packet.
func TestNotTogether(t *testing.T) {
	wantTogether(t, 2, []api.Msg{msg(2, 2, 1)})
	for _, to := range []int{0, -1, nodes + 1, math.MaxInt, math.MinInt} {
		wantTogether(t, 2, []api.Msg{msg(2, to, 1)})
		wantTogether(t, 2, []api.Msg{msg(2, to, 1), msg(2, 1, 2), msg(2, to, 3)}, api.Packet{From: 2, To: 1, Msgs: []api.Msg{msg(2, 1, 2)}})
	}
	for _, from := range []int{0, -1, 1, 3, 7, 8, math.MaxInt} {
		wantTogether(t, 2, []api.Msg{msg(from, 4, 1)})
		wantTogether(t, 2, []api.Msg{msg(from, 4, 1), msg(2, 4, 2), msg(from, 4, 3)}, api.Packet{From: 2, To: 4, Msgs: []api.Msg{msg(2, 4, 2)}})
	}
}

// TestTogetherAsWorded: nothing but From and To is looked at: not whether from is a node, nor whether a message may be sent, nor how many there are.
func TestTogetherAsWorded(t *testing.T) {
	for _, from := range []int{0, -1, 8, math.MaxInt, math.MinInt} {
		var all []api.Msg
		var want []api.Packet
		for to := 1; to <= nodes; to++ {
			all = append(all, msg(from, to, to))
			want = append(want, api.Packet{From: from, To: to, Msgs: []api.Msg{msg(from, to, to)}})
		}
		wantTogether(t, from, append(all, msg(from, from, 1)), want...)
	}
	none := api.Msg{From: 1, To: 3}
	odd := api.Msg{Kind: -4, Group: 99, From: 1, To: 3, Term: -1, At: -2, AtTerm: -3, Commit: -4, Ok: true, Entries: make([]api.Entry, 9), Data: make([]byte, mostData+1)}
	wantTogether(t, 1, []api.Msg{none, odd}, api.Packet{From: 1, To: 3, Msgs: []api.Msg{none, odd}})
	lots := slices.Repeat([]api.Msg{small()}, mostMsgs+50)
	wantTogether(t, 1, lots, between12(lots...))
	wantTogether(t, 1, []api.Msg{full(), none, full()}, between12(full(), full()), api.Packet{From: 1, To: 3, Msgs: []api.Msg{none}})
}

// TestTogetherMemory is R3's: messages are neither changed nor kept, and no two lists of an answer share any memory.
func TestTogetherMemory(t *testing.T) {
	p, look := handedIn()
	l := append(p.Msgs, full())[:2]
	got := Together(1, l)
	look(t)
	want := between12(plainMsgs(l)...)
	other := Together(1, l)
	scribble(other)
	look(t)
	if len(got) != 1 || !same(got[0], want) {
		t.Errorf("%v", got)
	}
	twice := Together(1, []api.Msg{l[0], l[0]})
	clear(twice[0].Msgs[0].Entries[0].Data)
	clear(twice[0].Msgs[0].Data)
	clear(twice[0].Msgs[0].Entries)
	if !reflect.DeepEqual(plainMsg(twice[0].Msgs[1]), plainMsg(l[0])) {
		t.Error("two messages of an answer share memory")
	}
	clear(l[0].Data)
	clear(l[0].Entries[0].Data)
	clear(l[0].Entries)
	clear(l)
	if !same(got[0], want) {
		t.Error("an answer shares memory with what was handed in")
	}
}

// scribble overwrites all that packets have, with all room behind their lists.
func scribble(packets []api.Packet) {
	for _, p := range packets {
		for _, m := range p.Msgs {
			for _, e := range m.Entries {
				clear(e.Data[:cap(e.Data)])
			}
			clear(m.Data[:cap(m.Data)])
			clear(m.Entries[:cap(m.Entries)])
		}
		clear(p.Msgs[:cap(p.Msgs)])
	}
	clear(packets[:cap(packets)])
}

// TestTogetherDrawn holds Together against the words: each message goes in just one packet if it is from that node to another one, in its place.
func TestTogetherDrawn(t *testing.T) {
	r := rand.New(rand.NewSource(17))
	for range 3000 {
		from := r.Intn(10) - 1
		l := make([]api.Msg, r.Intn(12))
		for i := range l {
			l[i] = msg(r.Intn(10)-1, r.Intn(10)-1, i)
			if r.Intn(2) == 0 {
				l[i].From = from
			}
		}
		byNode := map[int][]api.Msg{}
		for _, m := range l {
			if m.From == from && m.To != from && m.To >= 1 && m.To <= 7 {
				byNode[m.To] = append(byNode[m.To], m)
			}
		}
		var want []api.Packet
		for to := range 8 {
			if byNode[to] != nil {
				want = append(want, api.Packet{From: from, To: to, Msgs: byNode[to]})
			}
		}
		wantTogether(t, from, l, want...)
	}
}
