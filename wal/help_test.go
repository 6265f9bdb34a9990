package wal

import (
	"encoding/binary"
	"hash/crc32"
	"reflect"
	"slices"
	"strconv"
	"strings"
	"testing"

	"funicular/api"
	"funicular/disk"
)

// most is MaxIndex, by the number that the document gives it; full is MaxSeg; nodes is MaxNodes.
const (
	most  = 1 << 40
	full  = 256
	nodes = 7
)

// framed is a record's bytes as the document has them, by the library's sum.
func framed(body []byte) []byte {
	size := binary.LittleEndian.AppendUint32(nil, uint32(len(body)))
	sum := crc32.Update(crc32.ChecksumIEEE(size), crc32.IEEETable, body)
	return append(binary.LittleEndian.AppendUint32(size, sum), body...)
}

// rows is bytes with numbers behind, by the library's rows.
func rows(b []byte, numbers ...uint64) []byte {
	for _, n := range numbers {
		b = binary.AppendUvarint(b, n)
	}
	return b
}

func with(b []byte, text string) []byte { return append(rows(b, uint64(len(text))), text...) }

func termOf(term, vote uint64) []byte { return framed(rows([]byte{1}, term, vote)) }

func entryOf(at, term uint64, text string) []byte {
	return framed(with(rows([]byte{2}, at, term), text))
}

func cutOf(at uint64) []byte { return framed(rows([]byte{3}, at)) }

func baseOf(at, term uint64) []byte { return framed(rows([]byte{4}, at, term)) }

func snapOf(base, term uint64, text string) []byte { return framed(with(rows(nil, base, term), text)) }

func joined(lists ...[]byte) []byte { return slices.Concat(lists...) }

func entry(term int, text string) api.Entry { return api.Entry{Term: term, Data: []byte(text)} }

// log is one whose entries have those terms, and bytes that tell their places.
func log(base, baseTerm int, terms ...int) api.Log {
	l := api.Log{Base: base, BaseTerm: baseTerm}
	for i, term := range terms {
		l.Entries = append(l.Entries, entry(term, strings.Repeat("e", max(base+i+1, 0)%64)))
	}
	return l
}

func hard(term, vote int, l api.Log, snap string) api.Hard {
	return api.Hard{Term: term, Vote: vote, Log: l, Snap: []byte(snap)}
}

// plain is what is hard in memory of its own, lists without elements being nil.
func plain(h api.Hard) api.Hard {
	var entries []api.Entry
	for _, e := range h.Log.Entries {
		entries = append(entries, api.Entry{Term: e.Term, Data: bytesOf(e.Data)})
	}
	h.Log.Entries, h.Snap = entries, bytesOf(h.Snap)
	return h
}

func bytesOf(b []byte) []byte { return append([]byte(nil), b...) }

func equal(a, b api.Hard) bool { return reflect.DeepEqual(plain(a), plain(b)) }

// file is a file's bytes, and how many of them, the last ones, are not synced.
type file struct {
	bytes string
	loose int
}

func (f file) String() string { return strconv.Quote(f.bytes) + " " + strconv.Itoa(f.loose) }

// files is all that a disk has.
func files(d *disk.Disk) map[string]file {
	all := map[string]file{}
	for _, name := range d.Names() {
		all[name] = file{bytes: string(d.Read(name)), loose: d.Loose(name)}
	}
	return all
}

// diskOf is a disk that has just these files.
func diskOf(all map[string]file) *disk.Disk {
	d := disk.New()
	for name, f := range all {
		d.Replace(name, []byte(f.bytes[:len(f.bytes)-f.loose]))
		if f.loose > 0 || len(f.bytes) == 0 {
			d.Append(name, []byte(f.bytes[len(f.bytes)-f.loose:]))
		}
	}
	return d
}

func synced(lists ...[]byte) file { return file{bytes: string(joined(lists...))} }

func loose(lists ...[]byte) file {
	b := joined(lists...)
	return file{bytes: string(b), loose: len(b)}
}

// wantFiles fails the test, if a disk has other files.
func wantFiles(t *testing.T, d *disk.Disk, want map[string]file) {
	t.Helper()
	if got := files(d); !reflect.DeepEqual(got, want) {
		t.Errorf("files %v, want %v", got, want)
	}
}

func wantHard(t *testing.T, w *Wal, want api.Hard) {
	t.Helper()
	if got := w.Hard(); !equal(got, want) {
		t.Errorf("hard %v, want %v", got, want)
	}
}

func mustOpen(t *testing.T, d *disk.Disk, group int) *Wal {
	t.Helper()
	w, err := Open(d, group)
	if err != api.OK || w == nil {
		t.Fatalf("Open of %d: %v, %d", group, w, err)
	}
	return w
}

func mustSave(t *testing.T, w *Wal, h api.Hard) {
	t.Helper()
	was := plain(h)
	if err := w.Save(h); err != api.OK {
		t.Fatalf("Save(%v) = %d", h, err)
	}
	if !equal(h, was) {
		t.Fatalf("%v was changed to %v", was, h)
	}
	wantHard(t, w, was)
}

// wantNoSave fails the test, if something is not refused so, or if it changes something.
func wantNoSave(t *testing.T, w *Wal, d *disk.Disk, h api.Hard, want api.Errno) {
	t.Helper()
	was, had := w.Hard(), files(d)
	if err := w.Save(h); err != want {
		t.Errorf("Save(%v) behind %v = %d, want %d", h, was, err, want)
	}
	wantHard(t, w, was)
	wantFiles(t, d, had)
}

// wantNoOpen fails the test, if a disk is not refused so, or if it is changed.
func wantNoOpen(t *testing.T, d *disk.Disk, group int, want api.Errno) {
	t.Helper()
	had := files(d)
	if w, err := Open(d, group); w != nil || err != want {
		t.Errorf("Open of %v, %d = %v, %d, want nil, %d", had, group, w, err, want)
	}
	wantFiles(t, d, had)
}

// wantOpen opens a group on a disk that has some files, and fails the test, if something else is hard then, if the disk has other files, or if all this is not the same once more.
func wantOpen(t *testing.T, all map[string]file, group int, h api.Hard, left map[string]file) *Wal {
	t.Helper()
	d := diskOf(all)
	w := mustOpen(t, d, group)
	wantHard(t, w, h)
	wantFiles(t, d, left)
	wantHard(t, mustOpen(t, d, group), h)
	wantFiles(t, d, left)
	return w
}

// began is a wal of group 3 in segment 1, with term 2, vote 1 and entries of terms 1, 2, 2, all synced, and its disk.
func began(t *testing.T) (*Wal, *disk.Disk, api.Hard) {
	t.Helper()
	d := disk.New()
	w := mustOpen(t, d, 3)
	h := hard(2, 1, log(0, 0, 1, 2, 2), "")
	mustSave(t, w, h)
	w.Flush()
	return w, d, h
}

// beganBytes is the records that are in its segment.
func beganBytes() []byte {
	return joined(termOf(2, 1), entryOf(1, 1, "e"), entryOf(2, 2, "ee"), entryOf(3, 2, "eee"))
}

// behind is a wal of group 3 in segment 2, with term 5, vote 2, a snapshot at 4 of term 2, and entries of terms 2, 5 behind it, and its disk.
func behind(t *testing.T) (*Wal, *disk.Disk, api.Hard) {
	t.Helper()
	w, d, _ := began(t)
	h := hard(5, 2, log(4, 2, 2, 5), "snap")
	mustSave(t, w, h)
	return w, d, h
}

func behindBytes() []byte {
	return joined(termOf(5, 2), baseOf(4, 2), entryOf(5, 2, "eeeee"), entryOf(6, 5, "eeeeee"))
}

func behindFiles() map[string]file {
	return map[string]file{"g03p": synced(snapOf(4, 2, "snap")), "g03s00000002": synced(behindBytes())}
}
