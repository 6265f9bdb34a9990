package wal

import (
	"math/rand"
	"slices"
	"strings"
	"testing"

	"funicular/api"
	"funicular/disk"
)

// run is a wal with what was hard behind each record since it was opened, and up to which of these all is synced.
type run struct {
	group  int
	w      *Wal
	states []api.Hard
	firm   int
}

func startRun(t *testing.T, d *disk.Disk, group int) *run {
	t.Helper()
	w := mustOpen(t, d, group)
	return &run{group: group, w: w, states: []api.Hard{w.Hard()}}
}

func (r *run) last() api.Hard { return r.states[len(r.states)-1] }

// tell is one more record, which makes of what was hard that.
func (r *run) tell(h api.Hard) { r.states = append(r.states, plain(h)) }

// save has what is told record by record: of a base above all at once, which is synced; else the term, the cut, entry by entry.
func (r *run) save(t *testing.T, d *disk.Disk, h api.Hard) {
	t.Helper()
	segments := countSegments(d, r.group)
	was, told := r.last(), len(r.states)
	mustSave(t, r.w, h)
	if h.Log.Base > was.Log.Base {
		r.tell(h)
		r.firm = len(r.states) - 1
		return
	}
	if countSegments(d, r.group) > segments {
		r.firm = told - 1
	}
	state := was
	if h.Term != was.Term || h.Vote != was.Vote {
		state.Term, state.Vote = h.Term, h.Vote
		r.tell(state)
	}
	n := 0
	for n < len(was.Log.Entries) && n < len(h.Log.Entries) && was.Log.Entries[n].Term == h.Log.Entries[n].Term && string(was.Log.Entries[n].Data) == string(h.Log.Entries[n].Data) {
		n++
	}
	if n < len(was.Log.Entries) {
		state.Log.Entries = h.Log.Entries[:n]
		r.tell(state)
	}
	for i := n; i < len(h.Log.Entries); i++ {
		state.Log.Entries = h.Log.Entries[:i+1]
		r.tell(state)
	}
}

func (r *run) flush() {
	r.w.Flush()
	r.firm = len(r.states) - 1
}

// countSegments is how many segments of a group there are on a disk that have bytes.
func countSegments(d *disk.Disk, group int) int {
	n := 0
	for _, name := range d.Names() {
		if strings.HasPrefix(name, Segment(group, 0)[:4]) && len(d.Read(name)) > 0 {
			n++
		}
	}
	return n
}

// fallen is a disk as another one is behind a crash that keeps so many bytes of each file that begins with a group's name, and of others all.
func fallen(all map[string]file, group, keep int) *disk.Disk {
	d := diskOf(all)
	var kept []int
	for _, name := range d.Names() {
		n := d.Loose(name)
		if strings.HasPrefix(name, Segment(group, 0)[:3]) {
			n = min(n, keep)
		}
		kept = append(kept, n)
	}
	d.Crash(kept)
	return d
}

// wantBeginnings fails the test, if behind a crash, whatever it keeps, something else is found than all that is synced and a beginning of the records behind it.
func (r *run) wantBeginnings(t *testing.T, d *disk.Disk) {
	t.Helper()
	all := files(d)
	loose := 0
	for name, f := range all {
		if f.loose > 0 && strings.HasPrefix(name, Segment(r.group, 0)[:4]) {
			if name != r.w.segment() {
				t.Fatalf("%s is not the last segment, and not synced", name)
			}
			loose = f.loose
		}
	}
	at := r.firm
	for keep := range loose + 1 {
		after := fallen(all, r.group, keep)
		h := mustOpen(t, after, r.group).Hard()
		if !equal(h, r.states[at]) && at+1 < len(r.states) {
			at++
		}
		if !equal(h, r.states[at]) {
			t.Fatalf("with %d of %d bytes kept: %v, want %v", keep, loose, h, r.states[at])
		}
		left := files(after)
		again := mustOpen(t, after, r.group)
		wantHard(t, again, h)
		wantFiles(t, after, left)
	}
	if at != len(r.states)-1 {
		t.Fatalf("all %d bytes kept: %v, want %v", loose, r.states[at], r.last())
	}
}

// TestWhatIsSyncedIsFoundAgain: 16.9, of two groups on one disk, whose segments are torn at every byte on the way.
func TestWhatIsSyncedIsFoundAgain(t *testing.T) {
	torn, whole := 0, 0
	for seed := range int64(50) {
		draw := drawn{rand.New(rand.NewSource(seed))}
		d := disk.New()
		runs := []*run{startRun(t, d, 3), startRun(t, d, 30)}
		for range 25 {
			r := runs[draw.Intn(2)]
			switch draw.Intn(6) {
			case 0:
				r.flush()
			case 1:
				kept := 0
				for _, name := range d.Names() {
					kept = max(kept, d.Loose(name))
				}
				kept = draw.Intn(kept + 1)
				d = fallen(files(d), r.group, kept) // the other one's is kept
				for i, r := range runs {
					was := r.states[r.firm:]
					runs[i] = startRun(t, d, r.group)
					h := runs[i].w.Hard()
					if !slices.ContainsFunc(was, func(state api.Hard) bool { return equal(state, h) }) {
						t.Fatalf("behind a crash: %v, want one of %v", h, was)
					}
					if equal(h, was[len(was)-1]) {
						whole++
					} else {
						torn++
					}
				}
			default:
				r.save(t, d, draw.next(r.last()))
			}
			runs[draw.Intn(2)].wantBeginnings(t, d)
		}
	}
	if torn < 50 || whole < 50 {
		t.Errorf("%d ended early, %d did not", torn, whole)
	}
}

// TestManyFallsLoseNothingMore: what is left of a crash is synced, and stays behind any other.
func TestManyFallsLoseNothingMore(t *testing.T) {
	for seed := range int64(200) {
		draw := drawn{rand.New(rand.NewSource(seed))}
		d := disk.New()
		w := mustOpen(t, d, 3)
		for range 12 {
			mustSave(t, w, draw.next(w.Hard()))
		}
		d = fallen(files(d), 3, draw.Intn(400))
		w = mustOpen(t, d, 3)
		h := w.Hard()
		for range 3 {
			d.Crash(nil)
			w = mustOpen(t, d, 3)
			wantHard(t, w, h)
		}
		h = draw.next(h) // and it goes on from there
		mustSave(t, w, h)
		w.Flush()
		d.Crash(nil)
		wantHard(t, mustOpen(t, d, 3), h)
	}
}

// TestAnswersHangOnTheCallsAlone: the same calls once more leave the same bytes.
func TestAnswersHangOnTheCallsAlone(t *testing.T) {
	for seed := range int64(50) {
		var first map[string]file
		for range 2 {
			draw := drawn{rand.New(rand.NewSource(seed))}
			d := disk.New()
			w := mustOpen(t, d, 3)
			for range 40 {
				mustSave(t, w, draw.next(w.Hard()))
				if draw.Intn(3) == 0 {
					w.Flush()
				}
			}
			if first == nil {
				first = files(d)
			}
			wantFiles(t, d, first)
		}
	}
}
