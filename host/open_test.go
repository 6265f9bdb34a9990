package host

import (
	"math"
	"reflect"
	"testing"

	"funicular/api"
	"funicular/disk"
	"funicular/raft"
	"funicular/wal"
)

// 18.1

func TestOpenIsOfSoManyGroups(t *testing.T) {
	for _, groups := range []int{math.MinInt, -parts, -1, 0, parts + 1, 2 * parts, math.MaxInt} {
		wantNoOpen(t, 1, 1, groups, disk.New(), api.ErrRange)
		wantNoOpen(t, 0, 9, groups, disk.New(), api.ErrRange)
		wantNoOpen(t, 1, 1, groups, nil, api.ErrRange)
	}
	for _, groups := range []int{1, 2, 63, parts} {
		h := mustOpen(t, 1, 1, groups, disk.New())
		for g := range groups {
			if _, err := h.Raft(g); err != api.OK {
				t.Errorf("Raft(%d) of %d = %d", g, groups, err)
			}
		}
		if _, err := h.Raft(groups); err != api.ErrNone {
			t.Errorf("Raft(%d) of as many = %d", groups, err)
		}
	}
}

func TestOpenIsOfAMember(t *testing.T) {
	for _, c := range [][2]int{{0, 3}, {-1, 3}, {4, 3}, {1, 0}, {0, 0}, {1, 8}, {8, 8}, {8, 7}, {-1, -1}, {math.MaxInt, 7}, {1, math.MinInt}} {
		wantNoOpen(t, c[0], c[1], 2, disk.New(), api.ErrRange)
		wantNoOpen(t, c[0], c[1], 2, nil, api.ErrRange)
		wantNoOpen(t, c[0], c[1], 2, diskOf(map[string]file{"g00p": {bytes: "torn"}}), api.ErrRange)
	}
	for n := 1; n <= 7; n++ {
		for id := 1; id <= n; id++ {
			wantMembers(t, mustOpen(t, id, n, 2, disk.New()), fresh(t, id, n), fresh(t, id, n))
		}
	}
}

func TestOpenOfNoDisk(t *testing.T) {
	wantNoOpen(t, 1, 1, 1, nil, api.ErrArg)
	wantNoOpen(t, 7, 7, parts, nil, api.ErrArg)
}

// On a disk without files nothing is hard, nothing firm, nothing taken, and nothing waits.
func TestOpenOfAnEmptyDisk(t *testing.T) {
	d := disk.New()
	h := mustOpen(t, 2, 3, 2, d)
	wantMembers(t, h, fresh(t, 2, 3), fresh(t, 2, 3))
	wantLeads(t, h)
	wantTake(t, h, 0, Taken{})
	wantFlush(t, h)
	wantTake(t, h, 1, Taken{})
	wantFiles(t, d, map[string]file{})
}

// bad is disks of which group g's files are wrong in one way each, and the error that is told of them where three nodes are.
var bad = []struct {
	name string
	err  api.Errno
	lay  func(t *testing.T, d *disk.Disk, g int)
}{
	{"a torn snapshot", api.ErrSum, func(_ *testing.T, d *disk.Disk, g int) { d.Replace(wal.Snapshot(g), []byte("torn")) }},
	{"no snapshot", api.ErrState, func(t *testing.T, d *disk.Disk, g int) {
		keep(t, d, g, hard(2, 0, log(4, 2), "snap"))
		d.Replace(wal.Snapshot(g), nil)
	}},
	{"an empty snapshot", api.ErrSum, func(_ *testing.T, d *disk.Disk, g int) { d.Append(wal.Snapshot(g), nil) }},
	{"a vote for 4", api.ErrArg, func(t *testing.T, d *disk.Disk, g int) { keep(t, d, g, hard(2, 4, api.Log{}, "")) }},
}

func TestOpenOfADiskThatIsWrong(t *testing.T) {
	for _, c := range bad {
		for g := range 4 {
			d := disk.New()
			c.lay(t, d, g)
			for groups := 1; groups <= 4; groups++ {
				if g < groups {
					wantNoOpen(t, 2, 3, groups, d, c.err)
				} else { // of a group that is not here nothing is looked at
					mustOpen(t, 2, 3, groups, d)
				}
			}
		}
	}
	d := disk.New()
	bad[3].lay(t, d, 1)
	mustOpen(t, 2, 4, 2, d)
}

// Group by group: of the first group that is wrong its error, whichever it is.
func TestOpenTellsTheFirstError(t *testing.T) {
	for _, a := range bad {
		for _, b := range bad {
			d := disk.New()
			b.lay(t, d, 2)
			a.lay(t, d, 1)
			wantNoOpen(t, 2, 3, 3, d, a.err)
		}
	}
	d := disk.New() // of one group what wal says goes ahead of what raft says
	keep(t, d, 0, hard(2, 4, log(4, 2), "snap"))
	wantNoOpen(t, 2, 3, 1, d, api.ErrArg)
	d.Replace(wal.Snapshot(0), nil)
	wantNoOpen(t, 2, 3, 1, d, api.ErrState)
}

// What groups ahead of the one that is wrong would cut off, or write anew, stays, too.
func TestOpenThatIsRefusedLeavesTheDisk(t *testing.T) {
	for _, c := range bad {
		d := disk.New()
		d.Append("other", nil)
		d.Append("more", []byte{1, 2})
		keep(t, d, 0, hard(2, 1, log(0, 0, entry(1, "a"), entry(2, "b")), ""))
		d.Append(wal.Segment(0, 1), []byte(framed(3, 2)+"torn"))
		keep(t, d, 1, hard(2, 1, log(0, 0, entry(1, "a")), ""))
		d.Replace(wal.Snapshot(1), []byte(framed(7, 2, 4, 's', 'n', 'a', 'p')))
		c.lay(t, d, 2)
		wantNoOpen(t, 2, 3, 3, d, c.err)

		h := mustOpen(t, 2, 3, 2, d) // which does cut off, and write anew
		if d.Loose(wal.Segment(0, 1)) != 0 || len(d.Read(wal.Segment(1, 2))) == 0 {
			t.Errorf("files %v", files(d))
		}
		if r := member(t, h, 0); len(r.Log.Entries) != 1 {
			t.Errorf("%v", r)
		}
		if r := member(t, h, 1); r.Log.Base != 7 || string(r.Snap) != "snap" {
			t.Errorf("%v", r)
		}
	}
}

// Each group is opened as wal.Open has it: on the disk itself.
func TestOpenLeavesWhatWalOpenLeaves(t *testing.T) {
	lay := func() *disk.Disk {
		d := disk.New()
		keep(t, d, 0, hard(3, 1, log(0, 0, entry(1, "a"), entry(3, "b")), ""))
		d.Append(wal.Segment(0, 1), []byte(framed(2, 3, 3, 1, 'c')))
		d.Append(wal.Segment(0, 1), []byte("torn"))
		keep(t, d, 1, hard(2, 2, log(5, 2, entry(2, "e")), "snap"))
		d.Append("other", []byte("file"))
		return d
	}
	d, like := lay(), lay()
	h := mustOpen(t, 3, 3, 3, d)
	for g := range 3 {
		w, err := wal.Open(like, g)
		if err != api.OK {
			t.Fatal(err)
		}
		x := w.Hard()
		want, err := raft.Restart(3, 3, x.Term, x.Vote, x.Log, x.Snap)
		if got := member(t, h, g); err != api.OK || !reflect.DeepEqual(got, ownRaft(want)) {
			t.Errorf("%d: %v, want %v, %d", g, got, want, err)
		}
	}
	wantFiles(t, d, files(like))
	if r := member(t, h, 0); r.Term != 3 || r.Vote != 1 || len(r.Log.Entries) != 3 || r.Commit != 0 || r.Wait != 13 {
		t.Errorf("%v", r)
	}
}

// Each is firm up to its Commit, which is where the log begins, and nothing is taken.
func TestOpenIsFirmWhereTheLogBegins(t *testing.T) {
	d := disk.New()
	keep(t, d, 0, hard(2, 1, log(0, 0, entry(1, "a"), entry(2, "b")), ""))
	keep(t, d, 1, hard(2, 1, log(6, 2, entry(2, "g")), "snap"))
	keep(t, d, 2, hard(2, 1, log(most, 2), ""))
	h := mustOpen(t, 2, 3, 3, d)
	wantTake(t, h, 0, Taken{})
	wantTake(t, h, 1, Taken{Base: 6, Snap: []byte("snap")})
	wantTake(t, h, 2, Taken{Base: most})
	wantLeads(t, h)
}

// What a host wrote is found again as far as it was synced, or its disk kept it.
func TestOpenBehindAFall(t *testing.T) {
	h, d := follower(t)
	h.Flush()
	synced := files(d)
	mustReceive(t, h, letter(1, 2, told(1, 1, 2, 1, 2, entry(1, "more"))))
	loose := d.Loose(wal.Segment(1, 1))
	if loose < 10 {
		t.Fatalf("%d bytes of an entry", loose)
	}
	written := files(d)
	for kept := 0; kept <= loose; kept++ {
		d := diskOf(written)
		d.Crash([]int{0, kept})
		h := mustOpen(t, 2, 3, 2, d)
		want := fresh(t, 2, 3)
		want.Term, want.Log = 1, log(0, 0, entry(1, ""), entry(1, "paid"))
		other := want
		if kept == loose {
			other.Log = log(0, 0, entry(1, ""), entry(1, "paid"), entry(1, "more"))
		} else {
			wantFiles(t, d, synced)
		}
		wantMembers(t, h, want, other)
		wantTake(t, h, 1, Taken{})
	}
}

// A host that Open did not make has no groups.
func TestHostThatOpenDidNotMake(t *testing.T) {
	h := &Host{}
	h.Tick(3)
	if err := h.Receive(letter(1, 2)); err != api.ErrArg {
		t.Errorf("Receive = %d", err)
	}
	if _, _, err := h.Propose(0, nil); err != api.ErrNone {
		t.Errorf("Propose = %d", err)
	}
	wantFlush(t, h)
	wantLeads(t, h)
}
