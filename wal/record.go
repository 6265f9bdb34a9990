package wal

import (
	"bytes"
	"slices"

	"funicular/api"
	"funicular/frame"
	"funicular/logs"
	"funicular/pack"
)

// What a record is: the byte that it begins with.
const (
	isTerm  = iota + 1 // a term, and whom the member voted for
	isEntry            // a place, a term, and bytes: an entry
	isCut              // a place: the entries from it on are cut off
	isBase             // a place and a term: where the log begins, without entries
)

// changes is the records that make of what was hard what is: none, if it is the same.
func changes(was, is api.Hard) []byte {
	var b []byte
	if is.Term != was.Term || is.Vote != was.Vote {
		b = putTerm(b, is)
	}
	n := alike(was.Log.Entries, is.Log.Entries)
	first := is.Log.Base + n + 1
	if n < len(was.Log.Entries) {
		b = frame.Put(b, uints([]byte{isCut}, first))
	}
	return putEntries(b, first, is.Log.Entries[n:])
}

// alike is how many entries two lists have alike ahead of the first that is not.
func alike(a, b []api.Entry) int {
	n := min(len(a), len(b))
	for i := range n {
		if a[i].Term != b[i].Term || !bytes.Equal(a[i].Data, b[i].Data) {
			return i
		}
	}
	return n
}

// whole is the records of all that is hard but the snapshot's bytes.
func whole(h api.Hard) []byte {
	b := putTerm(nil, h)
	b = frame.Put(b, uints([]byte{isBase}, h.Log.Base, h.Log.BaseTerm))
	return putEntries(b, h.Log.Base+1, h.Log.Entries)
}

func putTerm(b []byte, h api.Hard) []byte {
	return frame.Put(b, uints([]byte{isTerm}, h.Term, h.Vote))
}

// putEntries is bytes with the records of entries behind, of which the first one stands at that place.
func putEntries(b []byte, at int, entries []api.Entry) []byte {
	for i, e := range entries {
		b = frame.Put(b, pack.Bytes(uints([]byte{isEntry}, at+i, e.Term), e.Data))
	}
	return b
}

// uints is bytes with numbers behind.
func uints(b []byte, numbers ...int) []byte {
	for _, n := range numbers {
		b = pack.Uint(b, uint64(n))
	}
	return b
}

// snapshot is a snapshot's file.
func snapshot(h api.Hard) []byte {
	return frame.Put(nil, pack.Bytes(uints(nil, h.Log.Base, h.Log.BaseTerm), h.Snap))
}

// readSnapshot is the place, the term and the bytes that a snapshot's file tells; false: it is none.
func readSnapshot(b []byte) (int, int, []byte, bool) {
	records, size := frame.Scan(b)
	if len(records) != 1 || size != len(b) {
		return 0, 0, nil, false
	}
	var base, term int
	snap, ok := numbersAndBytes(records[0], &base, &term)
	if !ok || base < 1 || term < 1 {
		return 0, 0, nil, false
	}
	return base, term, snap, true
}

// redo does what a record says to what is hard; false: it may not stand there, and nothing is done.
func redo(h *api.Hard, record []byte) bool {
	if len(record) == 0 {
		return false
	}
	switch body := record[1:]; record[0] {
	case isTerm:
		return redoTerm(h, body)
	case isEntry:
		return redoEntry(h, body)
	case isCut:
		return redoCut(h, body)
	case isBase:
		return redoBase(h, body)
	}
	return false
}

func redoTerm(h *api.Hard, body []byte) bool {
	var term, vote int
	if !numbersAlone(body, &term, &vote) || term < h.Term || vote > api.MaxNodes {
		return false
	}
	h.Term, h.Vote = term, vote
	return true
}

func redoEntry(h *api.Hard, body []byte) bool {
	var at, term int
	data, ok := numbersAndBytes(body, &at, &term)
	if !ok || at != logs.Last(h.Log)+1 || term < 1 || term < logs.LastTerm(h.Log) {
		return false
	}
	h.Log.Entries = append(h.Log.Entries, api.Entry{Term: term, Data: slices.Clone(data)}) // cloned, lest all the segment's memory be kept with it
	return true
}

func redoCut(h *api.Hard, body []byte) bool {
	var at int
	if !numbersAlone(body, &at) || at <= h.Log.Base || at > logs.Last(h.Log) {
		return false
	}
	h.Log.Entries = h.Log.Entries[:at-h.Log.Base-1]
	return true
}

func redoBase(h *api.Hard, body []byte) bool {
	var at, term int
	if !numbersAlone(body, &at, &term) || at < 1 || term < 1 {
		return false
	}
	h.Log = api.Log{Base: at, BaseTerm: term}
	return true
}

// numbersAlone reads as many numbers as are asked for; false: they are not all that there is.
func numbersAlone(b []byte, into ...*int) bool {
	rest, ok := numbers(b, into...)
	return ok && len(rest) == 0
}

// numbersAndBytes reads as many numbers as are asked for, and the bytes behind; false: they are not all that there is.
func numbersAndBytes(b []byte, into ...*int) ([]byte, bool) {
	rest, ok := numbers(b, into...)
	if !ok {
		return nil, false
	}
	data, rest, err := pack.ReadBytes(rest)
	return data, err == api.OK && len(rest) == 0
}

// numbers reads as many numbers as are asked for, and tells the bytes behind; false: there are not so many, or one is too great for a place or a term.
func numbers(b []byte, into ...*int) ([]byte, bool) {
	for _, number := range into {
		n, rest, err := pack.ReadUint(b)
		if err != api.OK || n > api.MaxIndex {
			return nil, false
		}
		*number, b = int(n), rest
	}
	return b, true
}
