package jobs

import (
	"math/rand"
	"testing"

	"funicular/api"
)

// 19.11: a job is lent to one alone at a time, and no more often than it has tries.

// ledger is what is known of a job by the answers alone: who has it up to when, how many tries it was given, how often it was lent, and how often its time ran out.
type ledger struct {
	worker        string
	until         int
	given         int
	lent, ranOut  int
	failed, ended bool
}

// shop is a table at a time, and what is known of its jobs.
type shop struct {
	t    *testing.T
	r    *rand.Rand
	jobs []api.Job
	now  int
	next int
	know map[int]*ledger
	calm bool // no job's time runs out
}

func newShop(t *testing.T, r *rand.Rand, calm bool) *shop {
	return &shop{t: t, r: r, next: 1, know: map[int]*ledger{}, calm: calm}
}

// become takes a table on, which must be one that may be.
func (s *shop) become(l []api.Job, err api.Errno) {
	s.t.Helper()
	if err != api.OK || Check(l) != api.OK || wordedCheck(l) != api.OK {
		s.t.Fatalf("%v, %d", l, err)
	}
	s.jobs = l
}

func (s *shop) add() {
	tries := s.r.Intn(4)
	l, err := Add(s.jobs, api.Job{Id: s.next, Inst: 1 + s.r.Intn(5), Token: s.next, Kind: drawnKind(s.r), Tries: tries})
	s.become(l, err)
	s.know[s.next] = &ledger{given: tries}
	s.next += 1 + s.r.Intn(3)
}

func (s *shop) lend() {
	kind, worker, most := drawnKind(s.r), drawnWorker(s.r), 1+s.r.Intn(3)
	until := s.now + 1 + s.r.Intn(6)
	if s.calm {
		until = mostIndex
	}
	l, lent, err := Lend(s.jobs, kind, worker, s.now, until, most)
	s.become(l, err)
	if len(lent) > most {
		s.t.Fatalf("%d lent, %d asked for", len(lent), most)
	}
	for _, j := range lent {
		s.lentTo(j, worker, until)
	}
}

func (s *shop) lentTo(j api.Job, worker string, until int) {
	k := s.know[j.Id]
	switch {
	case k.ended:
		s.t.Fatalf("%v is lent, and was done", j)
	case k.worker != "" && k.until > s.now:
		s.t.Fatalf("%v is lent at %d, and %s has it up to %d", j, s.now, k.worker, k.until)
	case k.worker != "":
		k.ranOut++
	}
	k.worker, k.until = worker, until
	k.lent++
	if k.lent-k.ranOut > k.given { // a time that ran out takes no try
		s.t.Fatalf("%v is lent %d times, of which %d ran out, and had %d tries", j, k.lent, k.ranOut, k.given)
	}
}

// end lets somebody say that they did, or could not do, a job; who has it alone may.
func (s *shop) end(call ender, done bool) {
	id, worker := 1+s.r.Intn(s.next), drawnWorker(s.r)
	l, j, err := call(s.jobs, id, worker, s.now)
	k := s.know[id]
	want := api.OK
	switch {
	case k == nil || k.ended:
		want = api.ErrNone
	case k.worker != worker || k.until <= s.now:
		want = api.ErrState
	}
	if err != want {
		s.t.Fatalf("%d of %s at %d: %d, wanted %d", id, worker, s.now, err, want)
	}
	if err != api.OK {
		return
	}
	s.become(l, err)
	if j.Id != id || done && (j.Worker != worker || j.Until != k.until) || !done && (j.Worker != "" || j.Until != 0) {
		s.t.Fatalf("%d of %s at %d: %v", id, worker, s.now, j)
	}
	k.worker, k.until, k.ended = "", 0, done
	k.failed = !done
}

func (s *shop) again() {
	id, tries := 1+s.r.Intn(s.next), 1+s.r.Intn(3)
	l, err := Again(s.jobs, id, tries)
	if k := s.know[id]; err == api.OK {
		s.become(l, err)
		if k.worker != "" && k.until > s.now || k.ended {
			s.t.Fatalf("%d is given tries", id)
		}
		k.given += tries
	}
}

// gone lets an instance's jobs go.
func (s *shop) gone() {
	inst := 1 + s.r.Intn(5)
	for _, j := range s.jobs {
		if j.Inst == inst {
			s.know[j.Id].ended = true
		}
	}
	s.become(Without(s.jobs, inst), api.OK)
}

// saved is the table as bytes, and from bytes.
func (s *shop) saved() {
	l, rest, err := Read(Put(nil, s.jobs))
	if !same(l, s.jobs) || len(rest) > 0 {
		s.t.Fatalf("%v became %v, %v", s.jobs, l, rest)
	}
	s.become(l, err)
}

func (s *shop) step() {
	switch n := s.r.Intn(40); {
	case n < 6:
		s.add()
	case n < 18:
		s.lend()
	case n < 24:
		s.end(Done, true)
	case n < 32:
		s.end(Fail, false)
	case n < 36:
		s.again()
	case n < 37:
		s.saved()
	case n < 38 && s.r.Intn(4) == 0:
		s.gone()
	default:
		s.now += s.r.Intn(3)
	}
}

func TestDrawnRuns(t *testing.T) {
	r := rand.New(rand.NewSource(1911))
	var lent, ranOut, failed, ended, held int
	for k := range 300 {
		s := newShop(t, r, k%3 == 0)
		for range 400 {
			s.step()
		}
		for _, one := range s.know {
			lent += one.lent
			ranOut += one.ranOut
			if s.calm && one.ranOut > 0 {
				t.Fatal("a time ran out that is no more than begun")
			}
			if one.failed {
				failed++
			}
			if one.ended {
				ended++
			}
			if one.worker != "" && one.until > s.now {
				held++
			}
		}
	}
	for what, n := range map[string]int{"lent": lent, "run out": ranOut, "failed": failed, "ended": ended, "held": held} {
		if n < 300 {
			t.Errorf("%d jobs alone were %s", n, what)
		}
	}
}

// Who asks by and by for all there is, and fails, or does, each in its time, is lent each job as often as it has tries.
func TestEachTryIsLentOnce(t *testing.T) {
	for tries := range mostTries + 1 {
		l, err := Add(nil, free(1, "pay", tries))
		if err != api.OK {
			t.Fatal(err)
		}
		times := 0
		for now := range 20 {
			all, lent, err := Lend(l, "pay", "w", now, now+1, 1)
			if err != api.OK {
				t.Fatal(err)
			}
			if len(lent) == 0 {
				break
			}
			times++
			if l, _, err = Fail(all, 1, "w", now); err != api.OK {
				t.Fatal(err)
			}
		}
		if times != tries {
			t.Errorf("%d times lent, with %d tries", times, tries)
		}
	}
}
