package raft

import (
	"reflect"
	"strconv"
	"testing"
	"unsafe"

	"funicular/api"
)

// most is MaxIndex, by the number that the document gives it.
const most = 1 << 40

// log is one with entries of those terms, each with bytes that tell where it stands.
func log(base, baseTerm int, terms ...int) api.Log {
	l := api.Log{Base: base, BaseTerm: baseTerm}
	for i, term := range terms {
		l.Entries = append(l.Entries, entry(term, "at "+strconv.Itoa(base+1+i)))
	}
	return l
}

func entry(term int, data string) api.Entry { return api.Entry{Term: term, Data: []byte(data)} }

// behind is a log's entries, and others behind them.
func behind(l api.Log, more ...api.Entry) api.Log {
	l.Entries = append(ownEntries(l.Entries), more...)
	return l
}

// truths is a list of n, of which those are true.
func truths(n int, who ...int) []bool {
	l := make([]bool, n)
	for _, one := range who {
		l[one-1] = true
	}
	return l
}

// same is a list of n that are all one number.
func same(n, number int) []int {
	var l []int
	for range n {
		l = append(l, number)
	}
	return l
}

// Member 2 of 3, in each role, in term 4: up to 5 there are entries, of which 3 is committed.

func follows() api.Raft {
	return api.Raft{Id: 2, N: 3, Term: 4, Lead: 1, Log: log(1, 1, 2, 2, 4, 4), Commit: 3, Snap: []byte("snap"), Clock: 5, Wait: 14}
}

func asks() api.Raft {
	return with(follows(), func(r *api.Raft) { r.Role, r.Lead, r.Granted = api.Asking, 0, truths(3, 2) })
}

func stands() api.Raft {
	return with(follows(), func(r *api.Raft) {
		r.Role, r.Lead, r.Vote, r.Granted = api.Candidate, 0, 2, truths(3, 2)
	})
}

func leads() api.Raft {
	return with(follows(), func(r *api.Raft) {
		r.Role, r.Lead, r.Vote, r.Clock, r.Next, r.Match = api.Leader, 2, 2, 0, []int{6, 5, 4}, []int{3, 5, 0}
	})
}

// roles is these, by their names.
func roles() map[string]api.Raft {
	return map[string]api.Raft{"follows": follows(), "asks": asks(), "stands": stands(), "leads": leads()}
}

// with is a member of which something is another.
func with(r api.Raft, change func(*api.Raft)) api.Raft {
	r = ownMember(r)
	change(&r)
	return r
}

// followed is what a member is that follows somebody in a term, as 15.3 says.
func followed(r api.Raft, term, who int) api.Raft {
	return with(r, func(r *api.Raft) {
		if term > r.Term {
			r.Term, r.Vote = term, 0
		}
		r.Role, r.Lead, r.Granted, r.Next, r.Match = api.Follower, who, nil, nil, nil
	})
}

// Things of their own memory, lists without elements being nil

func own[T any](l []T) []T {
	var list []T
	for _, e := range l {
		list = append(list, e)
	}
	return list
}

func ownEntries(l []api.Entry) []api.Entry {
	var list []api.Entry
	for _, e := range l {
		list = append(list, api.Entry{Term: e.Term, Data: own(e.Data)})
	}
	return list
}

func ownLog(l api.Log) api.Log {
	l.Entries = ownEntries(l.Entries)
	return l
}

func ownMember(r api.Raft) api.Raft {
	r.Log, r.Snap, r.Granted, r.Next, r.Match = ownLog(r.Log), own(r.Snap), own(r.Granted), own(r.Next), own(r.Match)
	return r
}

func ownMsgs(l []api.Msg) []api.Msg {
	var list []api.Msg
	for _, x := range l {
		x.Entries, x.Data = ownEntries(x.Entries), own(x.Data)
		list = append(list, x)
	}
	return list
}

// equal holds members against each other by what the library says.
func equal(a, b api.Raft) bool { return reflect.DeepEqual(ownMember(a), ownMember(b)) }

func equalMsgs(a, b []api.Msg) bool { return reflect.DeepEqual(ownMsgs(a), ownMsgs(b)) }

// roomy is things of which each list has something behind its length in its memory.
func roomy[T any](l []T, more T) []T { return append(own(l), more, more)[:len(l)] }

func roomyEntries(l []api.Entry) []api.Entry {
	var list []api.Entry
	for _, e := range l {
		list = append(list, api.Entry{Term: e.Term, Data: roomy(e.Data, 77)})
	}
	return roomy(list, api.Entry{Term: 77, Data: []byte("behind")})
}

func roomyLog(l api.Log) api.Log {
	l.Entries = roomyEntries(l.Entries)
	return l
}

func roomyMember(r api.Raft) api.Raft {
	r.Log, r.Snap = roomyLog(r.Log), roomy(r.Snap, 77)
	r.Granted, r.Next, r.Match = roomy(r.Granted, true), roomy(r.Next, 77), roomy(r.Match, 77)
	return r
}

func roomyMsg(x api.Msg) api.Msg {
	x.Entries, x.Data = roomyEntries(x.Entries), roomy(x.Data, 77)
	return x
}

// whole is lists with what lies behind their length.
func wholeEntries(l []api.Entry) []api.Entry {
	list := ownEntries(l[:cap(l)])
	for i, e := range l[:cap(l)] {
		list[i].Data = own(e.Data[:cap(e.Data)])
	}
	return list
}

func wholeMember(r api.Raft) api.Raft {
	r.Log.Entries, r.Snap = wholeEntries(r.Log.Entries), own(r.Snap[:cap(r.Snap)])
	r.Granted, r.Next, r.Match = own(r.Granted[:cap(r.Granted)]), own(r.Next[:cap(r.Next)]), own(r.Match[:cap(r.Match)])
	return r
}

func wholeMsg(x api.Msg) api.Msg {
	x.Entries, x.Data = wholeEntries(x.Entries), own(x.Data[:cap(x.Data)])
	return x
}

// unchanged fails the test at its end, if what lies in that memory is something else than now.
func unchanged[T any](t *testing.T, v T, whole func(T) T) func() {
	t.Helper()
	was := whole(v)
	return func() {
		t.Helper()
		if now := whole(v); !reflect.DeepEqual(now, was) {
			t.Errorf("%v was changed to %v", was, now)
		}
	}
}

func wholeBytes(b []byte) []byte { return own(b[:cap(b)]) }

func wholeLog(l api.Log) api.Log {
	l.Entries = wholeEntries(l.Entries)
	return l
}

// span is where a list lies, with the room behind it.
type span [2]uintptr

func spans[T any](l []T) []span {
	var one T
	if cap(l) == 0 {
		return nil
	}
	from := uintptr(unsafe.Pointer(unsafe.SliceData(l)))
	return []span{{from, from + uintptr(cap(l))*unsafe.Sizeof(one)}}
}

func entrySpans(l []api.Entry) []span {
	list := spans(l)
	for _, e := range l {
		list = append(list, spans(e.Data)...)
	}
	return list
}

func memberSpans(r api.Raft) []span {
	list := append(entrySpans(r.Log.Entries), spans(r.Snap)...)
	list = append(list, spans(r.Granted)...)
	return append(append(list, spans(r.Next)...), spans(r.Match)...)
}

func msgSpans(l []api.Msg) []span {
	list := spans(l)
	for _, x := range l {
		list = append(append(list, entrySpans(x.Entries)...), spans(x.Data)...)
	}
	return list
}

// wantNew fails the test, if one of the first memory lies in another part of it, or in the rest.
func wantNew(t *testing.T, what string, new []span, rest ...[]span) {
	t.Helper()
	for i, a := range new {
		others := own(new[:i])
		for _, list := range rest {
			others = append(others, list...)
		}
		for _, b := range others {
			if a[0] < b[1] && b[0] < a[1] {
				t.Errorf("%s: memory is shared", what)
				return
			}
		}
	}
}

// wantMember fails the test, if a member, or what it sends, is not what is wanted.
func wantMember(t *testing.T, what string, got, want api.Raft, sent, wantSent []api.Msg) {
	t.Helper()
	if !equal(got, want) {
		t.Errorf("%s:\n got %v\nwant %v", what, got, want)
	}
	if !equalMsgs(sent, wantSent) {
		t.Errorf("%s sends:\n got %v\nwant %v", what, sent, wantSent)
	}
}

// wantTick asks it twice, of a member in whose memory there is more than its own; so do those below.
func wantTick(t *testing.T, r api.Raft, draw int, want api.Raft, sent ...api.Msg) {
	t.Helper()
	what := "Tick " + strconv.Itoa(draw)
	r = roomyMember(r)
	defer unchanged(t, r, wholeMember)()
	got, out := Tick(r, draw)
	wantMember(t, what, got, want, out, sent)
	again, more := Tick(r, draw)
	wantMember(t, what+" again", again, want, more, sent)
	wantNew(t, what, append(msgSpans(out), msgSpans(more)...), memberSpans(r), memberSpans(got), memberSpans(again))
}

func wantReceive(t *testing.T, r api.Raft, x api.Msg, want api.Raft, sent ...api.Msg) {
	t.Helper()
	what := "Receive " + strconv.Itoa(x.Kind)
	r, x = roomyMember(r), roomyMsg(x)
	defer unchanged(t, r, wholeMember)()
	defer unchanged(t, x, wholeMsg)()
	got, out := Receive(r, x)
	wantMember(t, what, got, want, out, sent)
	again, more := Receive(r, x)
	wantMember(t, what+" again", again, want, more, sent)
	came := msgSpans([]api.Msg{x})
	wantNew(t, what, append(msgSpans(out), msgSpans(more)...), came, memberSpans(r), memberSpans(got), memberSpans(again))
	wantNew(t, what+" keeps", memberSpans(got), came)
}

func wantPropose(t *testing.T, r api.Raft, data string, want api.Raft, at int, sent ...api.Msg) {
	t.Helper()
	what := "Propose " + data
	r, bytes := roomyMember(r), roomy([]byte(data), 77)
	defer unchanged(t, r, wholeMember)()
	defer unchanged(t, bytes, wholeBytes)()
	for range 2 {
		got, place, out, err := Propose(r, bytes)
		wantMember(t, what, got, want, out, sent)
		if place != at || err != api.OK {
			t.Errorf("%s: %d, %d, want %d", what, place, err, at)
		}
		wantNew(t, what, msgSpans(out), spans(bytes), memberSpans(r), memberSpans(got))
		wantNew(t, what+" keeps", memberSpans(got), spans(bytes))
	}
}

func wantNoPropose(t *testing.T, r api.Raft, data string) {
	t.Helper()
	r = roomyMember(r)
	defer unchanged(t, r, wholeMember)()
	got, place, out, err := Propose(r, []byte(data))
	wantMember(t, "Propose", got, r, out, nil)
	if place != 0 || err != api.ErrLeader {
		t.Errorf("Propose: %d, %d", place, err)
	}
}

func wantCompact(t *testing.T, r api.Raft, upto int, snap string, want api.Raft) {
	t.Helper()
	what := "Compact " + strconv.Itoa(upto)
	r, bytes := roomyMember(r), roomy([]byte(snap), 77)
	defer unchanged(t, r, wholeMember)()
	defer unchanged(t, bytes, wholeBytes)()
	for range 2 {
		got, err := Compact(r, upto, bytes)
		wantMember(t, what, got, want, nil, nil)
		if err != api.OK {
			t.Errorf("%s: %d", what, err)
		}
		wantNew(t, what+" keeps", memberSpans(got), spans(bytes))
	}
}

func wantNoCompact(t *testing.T, r api.Raft, upto int) {
	t.Helper()
	r = roomyMember(r)
	defer unchanged(t, r, wholeMember)()
	got, err := Compact(r, upto, []byte("new"))
	wantMember(t, "Compact "+strconv.Itoa(upto), got, r, nil, nil)
	if err != api.ErrRange {
		t.Errorf("Compact %d: %d", upto, err)
	}
}

// chance is numbers that look like it, the same in every run.
type chance struct{ at uint64 }

func dice(seed uint64) *chance { return &chance{at: seed*6364136223846793005 + 1442695040888963407} }

func (c *chance) next(n int) int {
	c.at = c.at*6364136223846793005 + 1442695040888963407
	return int(c.at >> 33 % uint64(n))
}
