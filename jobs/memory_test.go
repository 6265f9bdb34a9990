package jobs

import (
	"bytes"
	"slices"
	"testing"
	"unsafe"

	"funicular/api"
)

// R3: what is handed in is neither changed nor kept, what is answered is new memory.

// spoilt is what stands behind the lists' lengths, and what is written into lists afterwards.
var spoilt = api.Job{Id: -7, Inst: -7, Token: -7, Kind: "spoilt", Tries: -7, Worker: "spoilt", Until: -7}

// roomy is a table, in new memory, that has others behind its length, and a look at whether all of that is what it was.
func roomy(t *testing.T, l []api.Job) ([]api.Job, func()) {
	all := append(slices.Clone(l), slices.Repeat([]api.Job{spoilt}, 4)...)
	was := slices.Clone(all)
	return all[:len(l)], func() {
		t.Helper()
		if !slices.Equal(all, was) {
			t.Errorf("what was handed in became %v", all)
		}
	}
}

// spoil writes others into a table, and behind it.
func spoil(l []api.Job) {
	for i := range l[:cap(l)] {
		l[:cap(l)][i] = spoilt
	}
}

// wantOwn fails the test, if behind a table's length there is anything, or if its texts are those of another one.
func wantOwn(t *testing.T, l, other []api.Job) {
	t.Helper()
	for _, j := range l[len(l):cap(l)] {
		if j != (api.Job{}) {
			t.Errorf("behind the answer there is %v", j)
		}
	}
	texts := map[*byte]bool{}
	for _, j := range other {
		texts[unsafe.StringData(j.Kind)], texts[unsafe.StringData(j.Worker)] = true, true
	}
	for _, j := range l {
		for _, text := range []string{j.Kind, j.Worker} {
			if text != "" && texts[unsafe.StringData(text)] {
				t.Errorf("the answer shares the text %q", text)
			}
		}
	}
}

func memoryTable() []api.Job {
	return []api.Job{free(1, "pay", 2), held(2, "ship", 3, "w", 9), free(3, "pay", 0), held(4, "pay", 1, "x", 5), free(5, "pay", 2)}
}

func TestCallsNeitherChangeNorKeep(t *testing.T) {
	one := func(l []api.Job, err api.Errno) ([]api.Job, []api.Job, api.Errno) { return l, nil, err }
	ended := func(l []api.Job, j api.Job, err api.Errno) ([]api.Job, []api.Job, api.Errno) {
		return l, []api.Job{j}, err
	}
	for name, call := range map[string]func(l []api.Job) ([]api.Job, []api.Job, api.Errno){
		"Add":              func(l []api.Job) ([]api.Job, []api.Job, api.Errno) { return one(Add(l, held(7, "pay", 1, "w", 5))) },
		"Lend":             func(l []api.Job) ([]api.Job, []api.Job, api.Errno) { return Lend(l, "pay", "v", 5, 8, 3) },
		"Lend of none":     func(l []api.Job) ([]api.Job, []api.Job, api.Errno) { return Lend(l, "ask", "v", 5, 8, 3) },
		"Done":             func(l []api.Job) ([]api.Job, []api.Job, api.Errno) { return ended(Done(l, 2, "w", 5)) },
		"Done at the last": func(l []api.Job) ([]api.Job, []api.Job, api.Errno) { return ended(Done(l, 4, "x", 4)) },
		"Fail":             func(l []api.Job) ([]api.Job, []api.Job, api.Errno) { return ended(Fail(l, 2, "w", 5)) },
		"Again":            func(l []api.Job) ([]api.Job, []api.Job, api.Errno) { return one(Again(l, 3, 5)) },
		"Without":          func(l []api.Job) ([]api.Job, []api.Job, api.Errno) { return one(Without(l, 102), 0) },
		"Without none":     func(l []api.Job) ([]api.Job, []api.Job, api.Errno) { return one(Without(l, 7), 0) },
		"Get": func(l []api.Job) ([]api.Job, []api.Job, api.Errno) {
			j, _ := Get(l, 2)
			return []api.Job{j}, nil, 0
		},
	} {
		l, unchanged := roomy(t, memoryTable())
		all, some, err := call(l)
		if err != api.OK {
			t.Fatalf("%s: %d", name, err)
		}
		unchanged()
		wantOwn(t, all, l)
		wantOwn(t, some, l)
		wantOwn(t, some, all)
		wasAll, wasSome := slices.Clone(all), slices.Clone(some)
		spoil(l)
		if !slices.Equal(all, wasAll) || !slices.Equal(some, wasSome) {
			t.Errorf("%s kept what it was given: %v, %v", name, all, some)
		}
		spoil(all)
		if !slices.Equal(some, wasSome) {
			t.Errorf("%s: its two tables share memory: %v", name, some)
		}
	}
}

func TestAnswersDoNotReachBack(t *testing.T) {
	l, unchanged := roomy(t, memoryTable())
	all, lent, _ := Lend(l, "pay", "v", 5, 8, 3)
	spoil(all)
	spoil(lent)
	all, _, _ = Done(l, 2, "w", 5)
	spoil(all)
	all, _, _ = Fail(l, 2, "w", 5)
	spoil(all)
	for _, inst := range []int{7, 102} {
		spoil(Without(l, inst))
	}
	all, _ = Again(l, 3, 5)
	spoil(all)
	all, _ = Add(l, free(9, "pay", 1))
	spoil(all)
	unchanged()
}

func TestNamesAreNotKept(t *testing.T) {
	kind, worker := string([]byte("pay")), string([]byte("v"))
	table, lent, _ := Lend(memoryTable(), kind, worker, 5, 8, 3)
	all, _ := Add(nil, api.Job{Id: 1, Inst: 1, Token: 1, Kind: kind, Tries: 1, Worker: worker})
	wantOwn(t, slices.Concat(table, lent, all), []api.Job{{Kind: kind, Worker: worker}})
}

func TestRefusedCallsChangeNothing(t *testing.T) {
	l, unchanged := roomy(t, memoryTable())
	Add(l, free(2, "pay", 1))
	Add(l, free(9, "", 1))
	Lend(l, "", "v", 5, 8, 3)
	Lend(l, "pay", "v", 5, 5, 3)
	Done(l, 2, "x", 5)
	Fail(l, 9, "x", 5)
	Again(l, 5, 3)
	Check(l)
	unchanged()
}

func TestPutAndMemory(t *testing.T) {
	l, unchanged := roomy(t, memoryTable())
	for _, room := range []int{0, 1, 5, 500} {
		all := append([]byte{1, 2, 3}, bytes.Repeat([]byte{99}, room)...)
		b := all[:3:len(all)]
		got := Put(b, l)
		if want := append([]byte{1, 2, 3}, written(l)...); !slices.Equal(got, want) || !slices.Equal(b, []byte{1, 2, 3}) {
			t.Errorf("Put with room for %d = %v", room, got)
		}
	}
	unchanged()
}

func TestReadAndMemory(t *testing.T) {
	b := append(written(memoryTable()), 1, 2, 3)
	all := append(slices.Clone(b), 99, 99)
	in := all[:len(b)]
	l, rest, err := Read(in)
	if err != api.OK || !slices.Equal(all, append(slices.Clone(b), 99, 99)) {
		t.Fatalf("Read: %d, and the bytes became %v", err, all)
	}
	for i := range all {
		all[i] = 77
	}
	if !same(l, memoryTable()) || !slices.Equal(rest, []byte{1, 2, 3}) {
		t.Errorf("Read kept the bytes: %v, %v", l, rest)
	}
	for i := range rest[:cap(rest)] {
		rest[:cap(rest)][i] = 66
	}
	for _, c := range all {
		if c != 77 {
			t.Fatal("what Read answers reaches back to the bytes")
		}
	}
	wantOwn(t, l, nil)
}
