package wal

import (
	"slices"

	"funicular/api"
	"funicular/disk"
	"funicular/frame"
	"funicular/logs"
)

// Open is a group's records as they are on a disk: all up to the first one that is torn, or may not stand there; what is behind is taken away.
func Open(d *disk.Disk, group int) (*Wal, api.Errno) {
	if d == nil || group < 0 || group >= api.MaxParts {
		return nil, api.ErrArg
	}
	w := &Wal{disk: d, group: group, last: 1}
	good, ended := w.redoAll()
	base := w.hard.Log.Base
	if err := w.resetBySnapshot(); err != api.OK {
		return nil, err
	}
	w.cutOff(good, ended) // only now, for an error leaves the disk as it is
	if term := logs.LastTerm(w.hard.Log); term > w.hard.Term {
		w.hard.Term, w.hard.Vote = term, 0
	}
	if w.hard.Log.Base > base {
		w.begin()
	}
	return w, api.OK
}

// redoAll does all records up to the first that is torn, or may not stand; and tells what is ahead of that in its segment, and the numbers of this segment and of those behind: none, if all records are good.
func (w *Wal) redoAll() ([]byte, []int) {
	seqs := numbered(w.disk, w.group)
	for i, seq := range seqs {
		b := w.disk.Read(Segment(w.group, seq))
		if len(b) == 0 {
			continue // no record is looked at here, so that this isn't the last segment
		}
		w.last = seq
		if good := redoSegment(&w.hard, b); len(good) < len(b) {
			return good, seqs[i:]
		}
	}
	return nil, nil
}

// redoSegment does a segment's records up to the first that is torn, or may not stand, and tells the bytes ahead of that.
func redoSegment(h *api.Hard, b []byte) []byte {
	records, _ := frame.Scan(b)
	var good []byte
	for _, record := range records {
		if !redo(h, record) {
			break
		}
		good = frame.Put(good, record)
	}
	return good
}

// cutOff leaves of the first of some segments the bytes that are good, and nothing of the others.
func (w *Wal) cutOff(good []byte, seqs []int) {
	for i, seq := range seqs {
		if i > 0 {
			good = nil
		}
		w.disk.Replace(Segment(w.group, seq), good)
	}
}

// resetBySnapshot has the log begin where the snapshot that is on the disk stands, and says what is wrong with it, or with a log whose snapshot is missing.
func (w *Wal) resetBySnapshot() api.Errno {
	name := Snapshot(w.group)
	if !slices.Contains(w.disk.Names(), name) {
		if w.hard.Log.Base > 0 {
			return api.ErrState
		}
		return api.OK
	}
	base, term, snap, ok := readSnapshot(w.disk.Read(name))
	switch {
	case !ok:
		return api.ErrSum
	case base < w.hard.Log.Base:
		return api.ErrState
	}
	w.hard.Log, w.hard.Snap = logs.Reset(w.hard.Log, base, term), slices.Clone(snap)
	return api.OK
}
