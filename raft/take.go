package raft

import (
	"funicular/api"
	"funicular/logs"
	"funicular/quorum"
)

// take does what a message asks for, by its kind.
func (w *work) take(x api.Msg) {
	switch x.Kind {
	case api.MAsk:
		w.takeAsk(x)
	case api.MAskOk:
		w.takeAskOk(x)
	case api.MVote:
		w.takeVote(x)
	case api.MVoteOk:
		w.takeVoteOk(x)
	case api.MAppend, api.MSnap:
		w.takeFromLeader(x)
	case api.MAppendOk:
		w.takeAppendOk(x)
	}
}

// takeAsk says whether it would vote for who asks; it stays what it is.
func (w *work) takeAsk(x api.Msg) {
	free := w.Role != api.Leader && (w.Lead == nobody || w.Clock >= patience)
	if free && x.Term > w.Term && logs.Newer(w.Log, x.AtTerm, x.At) {
		w.send(x.From, api.Msg{Kind: api.MAskOk, Term: x.Term, Ok: true})
		return
	}
	w.send(x.From, api.Msg{Kind: api.MAskOk, Term: w.Term})
}

// takeVote votes for who asks, or not: for one alone in a term.
func (w *work) takeVote(x api.Msg) {
	free := w.Role == api.Follower && (w.Vote == nobody || w.Vote == x.From)
	ok := free && x.Term == w.Term && logs.Newer(w.Log, x.AtTerm, x.At)
	if ok {
		w.Vote, w.Clock = x.From, 0
	}
	w.send(x.From, api.Msg{Kind: api.MVoteOk, Term: w.Term, Ok: ok})
}

// takeFromLeader takes on what one that leads tells.
func (w *work) takeFromLeader(x api.Msg) {
	if x.Term < w.Term || w.Role == api.Leader {
		w.send(x.From, api.Msg{Kind: api.MAppendOk, Term: w.Term})
		return
	}
	w.follow(x.Term, x.From)
	w.Clock = 0
	at, ok := 0, true
	if x.Kind == api.MSnap {
		at = w.takeSnap(x)
	} else {
		at, ok = w.takeEntries(x)
	}
	w.send(x.From, api.Msg{Kind: api.MAppendOk, Term: w.Term, At: at, Ok: ok})
}

// takeSnap takes a snapshot on, if it stands for more than is committed here, and tells up to where that is then.
func (w *work) takeSnap(x api.Msg) int {
	if x.At > w.Commit {
		w.Log, w.Snap, w.Commit = logs.Reset(w.Log, x.At, x.AtTerm), copied(x.Data), x.At
	}
	return w.Commit
}

// takeEntries puts entries to its log, if they fit, and tells up to where it is as the leader's, or where to try again.
func (w *work) takeEntries(x api.Msg) (int, bool) {
	l, at, fits := logs.Put(w.Log, x.At, x.AtTerm, x.Entries)
	if fits {
		w.Log, w.Commit = l, max(w.Commit, min(x.Commit, at)) // behind what was told here it may not be as the leader's
	}
	return at, fits
}

// takeAppendOk notes, as a leader, what one has, or that what it was told did not fit.
func (w *work) takeAppendOk(x api.Msg) {
	if x.Term < w.Term || w.Role != api.Leader {
		return
	}
	w.Next, w.Match = sized(w.Next, w.N), sized(w.Match, w.N)
	next, match := &w.Next[x.From-1], &w.Match[x.From-1]
	if !x.Ok {
		*next = max(min(*next-2, x.At)+1, *match+1) // 1 is added at last, for At may be the greatest number
		w.tell(x.From)
		return
	}
	last := logs.Last(w.Log)
	*match = max(*match, min(x.At, last))
	*next = max(*next, *match+1)
	w.lookAtCommitted()
	if *next <= last {
		w.tell(x.From)
	}
}

// takeAskOk stands, if so many would vote for it.
func (w *work) takeAskOk(x api.Msg) {
	if x.Ok && w.Role == api.Asking && x.Term == w.Term+1 {
		w.grant(x.From)
		if quorum.Won(w.Granted) {
			w.stand()
		}
	}
}

// takeVoteOk leads, if so many voted for it.
func (w *work) takeVoteOk(x api.Msg) {
	if x.Ok && w.Role == api.Candidate && x.Term == w.Term {
		w.grant(x.From)
		if quorum.Won(w.Granted) {
			w.lead()
		}
	}
}
