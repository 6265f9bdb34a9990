package jobs

import (
	"reflect"
	"slices"
	"strings"
	"testing"

	"funicular/api"
)

// The document's numbers: MaxIndex, MaxTries, MaxBatch, MaxName.
const (
	mostIndex = 1099511627776
	mostTries = 9
	mostLent  = 8
	mostName  = 32
)

// longName is a name of so many bytes.
func longName(n int) string { return strings.Repeat("a", n) }

// noNames is texts that are no names (2.4).
func noNames() []string {
	return []string{"", "1a", "A", "aB", "a b", "a_", "a\x00", "é", longName(mostName + 1)}
}

// free is a job that may be, that nobody has.
func free(id int, kind string, tries int) api.Job {
	return api.Job{Id: id, Inst: id + 100, Token: id + 200, Kind: kind, Tries: tries}
}

// held is a job that may be, that a worker has.
func held(id int, kind string, tries int, worker string, until int) api.Job {
	j := free(id, kind, tries)
	j.Worker, j.Until = worker, until
	return j
}

// turned is a job with something done to it.
func turned(j api.Job, do func(j *api.Job)) api.Job {
	do(&j)
	return j
}

// same: are two tables the same, one without jobs being as good as nil?
func same(a, b []api.Job) bool { return slices.Equal(a, b) }

func ids(l []api.Job) []int {
	var list []int
	for _, j := range l {
		list = append(list, j.Id)
	}
	return list
}

func wantCheck(t *testing.T, l []api.Job, want api.Errno) {
	t.Helper()
	if err := Check(l); err != want {
		t.Errorf("Check(%v) = %d, wanted %d", l, err, want)
	}
}

func wantAdd(t *testing.T, l []api.Job, j api.Job, want []api.Job, wantErr api.Errno) {
	t.Helper()
	if got, err := Add(l, j); err != wantErr || !same(got, want) {
		t.Errorf("Add(%v, %v) = %v, %d, wanted %v, %d", l, j, got, err, want, wantErr)
	}
}

// wantLent fails the test, unless Lend to w of pay at 10 up to 20 lends jobs of these numbers, which w has then, and leaves all others.
func wantLent(t *testing.T, l []api.Job, most int, want ...int) {
	t.Helper()
	var all, lent []api.Job
	for _, j := range l {
		if slices.Contains(want, j.Id) {
			j.Worker, j.Until = "w", 20
			lent = append(lent, j)
		}
		all = append(all, j)
	}
	gotAll, gotLent, err := Lend(l, "pay", "w", 10, 20, most)
	if err != api.OK || !same(gotAll, all) || !same(gotLent, lent) {
		t.Errorf("Lend of %d of %v = %v, %v, %d, wanted %v, %v", most, l, gotAll, gotLent, err, all, lent)
	}
}

func wantLendRefused(t *testing.T, kind, worker string, now, until, most int, want api.Errno) {
	t.Helper()
	l := []api.Job{free(1, "pay", 3)}
	all, lent, err := Lend(l, kind, worker, now, until, most)
	if err != want || len(all) != 0 || len(lent) != 0 {
		t.Errorf("Lend of %q to %q, %d, %d, %d = %v, %v, %d, wanted %d", kind, worker, now, until, most, all, lent, err, want)
	}
}

// ender is Done or Fail.
type ender func(l []api.Job, id int, worker string, now int) ([]api.Job, api.Job, api.Errno)

func wantEnd(t *testing.T, end ender, l []api.Job, id int, worker string, now int, want []api.Job, wantJob api.Job) {
	t.Helper()
	got, j, err := end(l, id, worker, now)
	if err != api.OK || !same(got, want) || j != wantJob {
		t.Errorf("%d by %q at %d of %v = %v, %v, %d, wanted %v, %v", id, worker, now, l, got, j, err, want, wantJob)
	}
}

func wantEndRefused(t *testing.T, end ender, l []api.Job, id int, worker string, now int, want api.Errno) {
	t.Helper()
	got, j, err := end(l, id, worker, now)
	if err != want || len(got) != 0 || j != (api.Job{}) {
		t.Errorf("%d by %q at %d of %v = %v, %v, %d, wanted %d", id, worker, now, l, got, j, err, want)
	}
}

func wantAgain(t *testing.T, l []api.Job, id, tries int, want []api.Job, wantErr api.Errno) {
	t.Helper()
	if got, err := Again(l, id, tries); err != wantErr || !same(got, want) {
		t.Errorf("Again(%v, %d, %d) = %v, %d, wanted %v, %d", l, id, tries, got, err, want, wantErr)
	}
}

func wantRead(t *testing.T, b []byte, want []api.Job, behind []byte) {
	t.Helper()
	l, rest, err := Read(b)
	if err != api.OK || !same(l, want) || !slices.Equal(rest, behind) {
		t.Errorf("Read(%v) = %v, %v, %d, wanted %v, %v", b, l, rest, err, want, behind)
	}
}

func wantNoRead(t *testing.T, b []byte, want api.Errno) {
	t.Helper()
	l, rest, err := Read(b)
	if err != want || len(l) != 0 || len(rest) != 0 {
		t.Errorf("Read(%v) = %v, %v, %d, wanted %d", b, l, rest, err, want)
	}
}

// wantEqual fails the test, unless two things are the same all through.
func wantEqual(t *testing.T, what string, got, want any) {
	t.Helper()
	if !reflect.DeepEqual(got, want) {
		t.Errorf("%s: %v, wanted %v", what, got, want)
	}
}
