package jobs

import (
	"math/big"
	"math/rand"
	"regexp"
	"slices"
	"testing"

	"funicular/api"
)

// The chapter in the document's words, and drawn calls on which the package is held against it.

var nameForm = regexp.MustCompile(`^[a-z][a-z0-9]*$`)

func wordedName(s string) bool { return nameForm.MatchString(s) && len(s) <= mostName }

// wordedCheck is 19.1.
func wordedCheck(l []api.Job) api.Errno {
	within := func(n, least, most int) bool { return !(n < least) && !(n > most) }
	for i, j := range l {
		numbers := within(j.Id, 1, mostIndex) && within(j.Inst, 1, mostIndex) && within(j.Token, 1, mostIndex)
		above := i == 0 || j.Id > l[i-1].Id
		nobody := j.Worker == "" && j.Until == 0
		somebody := wordedName(j.Worker) && j.Tries != 0
		if !(numbers && above && wordedName(j.Kind) && (nobody || somebody) && within(j.Tries, 0, mostTries) && within(j.Until, 0, mostIndex)) {
			return api.ErrArg
		}
	}
	return api.OK
}

func wordedGet(l []api.Job, id int) (api.Job, bool) {
	for _, j := range l {
		if j.Id == id {
			return j, true
		}
	}
	return api.Job{}, false
}

func wordedAdd(l []api.Job, j api.Job) ([]api.Job, api.Errno) {
	for _, one := range l {
		if one.Id == j.Id || one.Id > j.Id {
			return nil, api.ErrTwice
		}
	}
	if err := wordedCheck([]api.Job{j}); err != api.OK {
		return nil, err
	}
	return slices.Concat(l, []api.Job{j}), api.OK
}

func wordedLend(l []api.Job, kind, worker string, now, until, most int) ([]api.Job, []api.Job, api.Errno) {
	if !wordedName(kind) || !wordedName(worker) {
		return nil, nil, api.ErrArg
	}
	if now < 0 || !(until > now) || until > mostIndex || !slices.Contains([]int{1, 2, 3, 4, 5, 6, 7, 8}, most) {
		return nil, nil, api.ErrRange
	}
	var may []int
	for _, j := range l {
		nobody := j.Worker == ""
		over := !nobody && (j.Until == now || j.Until < now)
		if j.Kind == kind && j.Tries != 0 && (nobody || over) {
			may = append(may, j.Id)
		}
	}
	if len(may) > most {
		may = may[:most]
	}
	var all, lent []api.Job
	for _, j := range l {
		if slices.Contains(may, j.Id) {
			j.Worker, j.Until = worker, until
			lent = append(lent, j)
		}
		all = append(all, j)
	}
	return all, lent, api.OK
}

func wordedDone(l []api.Job, id int, worker string, now int) ([]api.Job, api.Job, api.Errno) {
	j, found := wordedGet(l, id)
	if !found {
		return nil, api.Job{}, api.ErrNone
	}
	if j.Worker != worker || worker == "" || !(j.Until > now) {
		return nil, api.Job{}, api.ErrState
	}
	var rest []api.Job
	for _, one := range l {
		if one.Id != id {
			rest = append(rest, one)
		}
	}
	return rest, j, api.OK
}

func wordedFail(l []api.Job, id int, worker string, now int) ([]api.Job, api.Job, api.Errno) {
	_, j, err := wordedDone(l, id, worker, now)
	if err != api.OK {
		return nil, api.Job{}, err
	}
	j.Worker, j.Until, j.Tries = "", 0, j.Tries-1
	return instead(l, j), j, api.OK
}

// instead is a table with a job in place of the one of its number.
func instead(l []api.Job, j api.Job) []api.Job {
	var all []api.Job
	for _, one := range l {
		if one.Id == j.Id {
			one = j
		}
		all = append(all, one)
	}
	return all
}

func wordedAgain(l []api.Job, id, tries int) ([]api.Job, api.Errno) {
	if tries < 1 || tries > mostTries {
		return nil, api.ErrRange
	}
	j, found := wordedGet(l, id)
	if !found {
		return nil, api.ErrNone
	}
	if j.Tries != 0 {
		return nil, api.ErrState
	}
	j.Tries = tries
	return instead(l, j), api.OK
}

func wordedWithout(l []api.Job, inst int) []api.Job {
	var rest []api.Job
	for _, j := range l {
		if j.Inst != inst {
			rest = append(rest, j)
		}
	}
	return rest
}

// wrong is an error that ends a reading.
type wrong api.Errno

// wordedReader reads bytes from the left, and throws the first error.
type wordedReader struct {
	b  []byte
	at int
}

// number is 2.1's, in a number of any size: its digits of base 128, the lowest first.
func (r *wordedReader) number() *big.Int {
	n, power := new(big.Int), big.NewInt(1)
	for i := 0; ; i++ {
		if r.at == len(r.b) {
			panic(wrong(api.ErrShort))
		}
		c := r.b[r.at]
		r.at++
		if i == 9 && c > 1 || c == 0 && i > 0 {
			panic(wrong(api.ErrRange))
		}
		n.Add(n, new(big.Int).Mul(power, big.NewInt(int64(c&127))))
		power.Mul(power, big.NewInt(128))
		if c < 128 {
			return n
		}
	}
}

func (r *wordedReader) limited() int {
	n := r.number()
	if n.Cmp(big.NewInt(mostIndex)) > 0 {
		panic(wrong(api.ErrLimit))
	}
	return int(n.Int64())
}

// text is 2.3's.
func (r *wordedReader) text() string {
	n := r.number()
	if n.Cmp(big.NewInt(int64(len(r.b)-r.at))) > 0 {
		panic(wrong(api.ErrShort))
	}
	r.at += int(n.Int64())
	return string(r.b[r.at-int(n.Int64()) : r.at])
}

// wordedRead is 19.10.
func wordedRead(b []byte) (l []api.Job, rest []byte, err api.Errno) {
	defer func() {
		if w, thrown := recover().(wrong); thrown {
			l, rest, err = nil, nil, api.Errno(w)
		}
	}()
	r := &wordedReader{b: b}
	many := r.number()
	for k := big.NewInt(0); k.Cmp(many) < 0; k.Add(k, big.NewInt(1)) {
		var j api.Job
		for _, n := range []*int{&j.Id, &j.Inst, &j.Token, &j.Tries, &j.Until} {
			*n = r.limited()
		}
		j.Kind = r.text()
		j.Worker = r.text()
		l = append(l, j)
	}
	if err := wordedCheck(l); err != api.OK {
		return nil, nil, err
	}
	return l, b[r.at:], api.OK
}

// pick is one of a list, drawn.
func pick[T any](r *rand.Rand, list ...T) T { return list[r.Intn(len(list))] }

func drawnKind(r *rand.Rand) string   { return pick(r, "pay", "ship") }
func drawnWorker(r *rand.Rand) string { return pick(r, "v", "w", "x") }

// drawnTable is a table that may be, whose times are about 10.
func drawnTable(r *rand.Rand) []api.Job {
	var l []api.Job
	id := 0
	for range r.Intn(16) {
		id += 1 + r.Intn(3)
		j := api.Job{Id: id, Inst: 1 + r.Intn(4), Token: 1 + r.Intn(9), Kind: drawnKind(r), Tries: r.Intn(4)}
		if j.Tries > 0 && r.Intn(2) == 0 {
			j.Worker, j.Until = drawnWorker(r), r.Intn(20)
		}
		l = append(l, j)
	}
	return l
}

// drawnJob is a job that mostly may be.
func drawnJob(r *rand.Rand) api.Job {
	j := free(r.Intn(40), drawnKind(r), r.Intn(10))
	switch r.Intn(10) {
	case 0:
		j.Kind = pick(r, noNames()...)
	case 1:
		j.Worker, j.Until = pick(r, "", "w", "1a"), r.Intn(2)
	case 2:
		*pick(r, &j.Id, &j.Inst, &j.Token, &j.Tries, &j.Until) = pick(r, -1, 0, 1, mostTries+1, mostIndex, mostIndex+1)
	}
	return j
}

func TestDrawnCalls(t *testing.T) {
	r := rand.New(rand.NewSource(19))
	for range 60000 {
		l := drawnTable(r)
		if err := Check(l); err != api.OK || wordedCheck(l) != api.OK {
			t.Fatalf("Check(%v) = %d", l, err)
		}
		id, inst := r.Intn(40)-1, r.Intn(6)
		worker, now := pick(r, "v", "w", "x", ""), r.Intn(22)-1
		if len(l) > 0 && r.Intn(2) == 0 {
			held := pick(r, l...)
			id, worker = held.Id, held.Worker
		}
		sameJob(t, l, id)
		sameAdd(t, l, drawnJob(r))
		sameLend(t, l, pick(r, "pay", "ship", "ask", "", "1a"), pick(r, "v", "w", "x", "y", "", "W"), now, now+r.Intn(8)-1, r.Intn(11)-1)
		sameEnd(t, l, id, worker, now)
		tries := r.Intn(12) - 1
		got, err := Again(l, id, tries)
		want, wantErr := wordedAgain(l, id, tries)
		sameTables(t, "Again", l, got, want, err, wantErr)
		sameTables(t, "Without", l, Without(l, inst), wordedWithout(l, inst), 0, 0)
	}
}

func sameTables(t *testing.T, what string, l, got, want []api.Job, err, wantErr api.Errno) {
	t.Helper()
	if err != wantErr || !same(got, want) {
		t.Fatalf("%s of %v: %v, %d, wanted %v, %d", what, l, got, err, want, wantErr)
	}
	if err := wordedCheck(got); err != api.OK {
		t.Fatalf("%s of %v: %v, which may not be", what, l, got)
	}
}

func sameJob(t *testing.T, l []api.Job, id int) {
	t.Helper()
	j, found := Get(l, id)
	if want, wantFound := wordedGet(l, id); j != want || found != wantFound {
		t.Fatalf("Get(%v, %d) = %v, %v, wanted %v, %v", l, id, j, found, want, wantFound)
	}
}

func sameAdd(t *testing.T, l []api.Job, j api.Job) {
	t.Helper()
	got, err := Add(l, j)
	want, wantErr := wordedAdd(l, j)
	sameTables(t, "Add", l, got, want, err, wantErr)
	if err := Check([]api.Job{j}); err != wordedCheck([]api.Job{j}) {
		t.Fatalf("Check of %v = %d", j, err)
	}
}

func sameLend(t *testing.T, l []api.Job, kind, worker string, now, until, most int) {
	t.Helper()
	got, lent, err := Lend(l, kind, worker, now, until, most)
	want, wantLent, wantErr := wordedLend(l, kind, worker, now, until, most)
	sameTables(t, "Lend", l, got, want, err, wantErr)
	sameTables(t, "Lend", l, lent, wantLent, err, wantErr)
}

func sameEnd(t *testing.T, l []api.Job, id int, worker string, now int) {
	t.Helper()
	for k, end := range []ender{Done, Fail} {
		got, j, err := end(l, id, worker, now)
		want, wantJob, wantErr := []ender{wordedDone, wordedFail}[k](l, id, worker, now)
		sameTables(t, "Done, Fail", l, got, want, err, wantErr)
		if j != wantJob {
			t.Fatalf("Done, Fail of %v: %v, wanted %v", l, j, wantJob)
		}
	}
}

func sameRead(t *testing.T, b []byte) api.Errno {
	t.Helper()
	l, rest, err := Read(b)
	want, wantRest, wantErr := wordedRead(b)
	if err != wantErr || !same(l, want) || !slices.Equal(rest, wantRest) {
		t.Fatalf("Read(%v) = %v, %v, %d, wanted %v, %v, %d", b, l, rest, err, want, wantRest, wantErr)
	}
	if err == api.OK && !slices.Equal(append(Put(nil, l), rest...), b) {
		t.Fatalf("%v is read as %v, which is written otherwise", b, l)
	}
	return err
}

func TestDrawnBytes(t *testing.T) {
	r := rand.New(rand.NewSource(1910))
	met := map[api.Errno]int{}
	for range 60000 {
		l := drawnTable(r)
		b := Put(nil, l)
		if !slices.Equal(b, written(l)) {
			t.Fatalf("Put(%v) = %v", l, b)
		}
		for range r.Intn(3) { // turned, cut, and with others in the midst
			at := r.Intn(len(b))
			switch r.Intn(4) {
			case 0:
				b[at] = byte(r.Intn(256))
			case 1:
				b = b[:at+1]
			case 2:
				b = slices.Insert(b, at, 0xff, 0xff, 0xff, 0xff, 0xff, 0xff, byte(r.Intn(256)), 0)
			case 3:
				b[at] += byte(r.Intn(3) - 1)
			}
		}
		met[sameRead(t, append(b, make([]byte, r.Intn(3))...))]++
	}
	for _, err := range []api.Errno{api.OK, api.ErrArg, api.ErrRange, api.ErrShort, api.ErrLimit} {
		if met[err] < 100 {
			t.Errorf("the error %d was met %d times alone", err, met[err])
		}
	}
}
