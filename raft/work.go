package raft

import (
	"funicular/api"
	"funicular/logs"
	"funicular/quorum"
)

// follow makes a Follower of it, in a term, of somebody or nobody.
func (w *work) follow(term, who int) {
	if term > w.Term {
		w.Term, w.Vote = term, nobody
	}
	w.Role, w.Lead = api.Follower, who
	w.Granted, w.Next, w.Match = nil, nil, nil
}

// ask asks the others whether they would vote for it, ahead of a term: who could not win troubles no leader.
func (w *work) ask(draw int) {
	w.follow(w.Term, nobody)
	w.Role, w.Clock, w.Wait = api.Asking, 0, patience+int(uint64(draw)%spread)
	w.grant(w.Id)
	if w.N == 1 {
		w.stand()
		return
	}
	w.sendAll(w.bid(api.MAsk, w.Term+1))
}

// stand asks the others for their votes, in the next term.
func (w *work) stand() {
	w.follow(w.Term+1, nobody)
	w.Vote, w.Role, w.Clock = w.Id, api.Candidate, 0
	w.grant(w.Id)
	if w.N == 1 {
		w.lead()
		return
	}
	w.sendAll(w.bid(api.MVote, w.Term))
}

// bid is what one who would lead says of its log.
func (w *work) bid(kind, term int) api.Msg {
	return api.Msg{Kind: kind, Term: term, At: logs.Last(w.Log), AtTerm: logs.LastTerm(w.Log)}
}

// grant notes that one has granted what it asked for.
func (w *work) grant(who int) {
	w.Granted = sized(w.Granted, w.N)
	w.Granted[who-1] = true
}

// lead makes a Leader of it; entries of older terms are committed only along with one of its own, so it makes one.
func (w *work) lead() {
	w.follow(w.Term, w.Id)
	w.Role, w.Clock = api.Leader, 0
	w.Next, w.Match = make([]int, w.N), make([]int, w.N)
	for i := range w.Next {
		w.Next[i] = logs.Last(w.Log) + 1
	}
	w.putBehind(nil)
}

// putBehind puts an entry of its term behind its log.
func (w *work) putBehind(data []byte) {
	w.Log = logs.Behind(w.Log, api.Entry{Term: w.Term, Data: data})
	w.Match = sized(w.Match, w.N)
	w.Match[w.Id-1] = logs.Last(w.Log)
	w.lookAtCommitted()
	w.tellAll()
}

// lookAtCommitted commits what a majority has, if it ends in its own term: what is older may still be overwritten by another one's.
func (w *work) lookAtCommitted() {
	at := quorum.Reached(w.Match)
	if term, found := logs.Term(w.Log, at); found && term == w.Term && at > w.Commit {
		w.Commit = at
	}
}

// tell sends somebody what comes next for them; it is sent again till they say that they have it.
func (w *work) tell(who int) {
	next, base := w.next(who), w.Log.Base
	if next <= base {
		w.send(who, api.Msg{Kind: api.MSnap, Term: w.Term, Commit: w.Commit, At: base, AtTerm: w.Log.BaseTerm, Data: copied(w.Snap)})
		return
	}
	term, _ := logs.Term(w.Log, next-1)
	entries := logs.From(w.Log, next, api.MaxBatch)
	w.send(who, api.Msg{Kind: api.MAppend, Term: w.Term, Commit: w.Commit, At: next - 1, AtTerm: term, Entries: entries})
}

// next is the place from which on somebody is told; 0 of who is not in the list.
func (w *work) next(who int) int {
	if who > len(w.Next) {
		return 0
	}
	return w.Next[who-1]
}

func (w *work) tellAll() {
	for _, who := range w.others() {
		w.tell(who)
	}
}

// sendAll sends a message without lists to all others.
func (w *work) sendAll(m api.Msg) {
	for _, who := range w.others() {
		w.send(who, m)
	}
}

// others is all of the group but itself, rising.
func (w *work) others() []int {
	var list []int
	for who := 1; who <= w.N; who++ {
		if who != w.Id {
			list = append(list, who)
		}
	}
	return list
}

func (w *work) send(to int, m api.Msg) {
	m.From, m.To = w.Id, to
	w.sent = append(w.sent, m)
}
