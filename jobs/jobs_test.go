package jobs

import (
	"math"
	"slices"
	"testing"

	"funicular/api"
)

func TestExample(t *testing.T) {
	l, err := Add(nil, api.Job{Id: 3, Inst: 1, Token: 2, Kind: "pay", Tries: 1})
	wantEqual(t, "Add", err, api.OK)
	l, lent, err := Lend(l, "pay", "w", 5, 9, 4)
	wantEqual(t, "Lend", err, api.OK)
	wantEqual(t, "what is lent", lent, []api.Job{{Id: 3, Inst: 1, Token: 2, Kind: "pay", Tries: 1, Worker: "w", Until: 9}})
	_, none, err := Lend(l, "pay", "x", 8, 12, 4)
	wantEqual(t, "Lend to x", err, api.OK)
	wantEqual(t, "what is lent to x", len(none), 0)
	wantEndRefused(t, Done, l, 3, "x", 6, api.ErrState)
	l, j, err := Fail(l, 3, "w", 6)
	wantEqual(t, "Fail", err, api.OK)
	wantEqual(t, "what failed", j, api.Job{Id: 3, Inst: 1, Token: 2, Kind: "pay"})
	_, none, _ = Lend(l, "pay", "w", 7, 9, 4)
	wantEqual(t, "what is lent without tries", len(none), 0)
	l, err = Again(l, 3, 2)
	wantEqual(t, "Again", err, api.OK)
	_, lent, err = Lend(l, "pay", "x", 7, 9, 4)
	wantEqual(t, "Lend again", err, api.OK)
	wantEqual(t, "what is lent again", lent, []api.Job{{Id: 3, Inst: 1, Token: 2, Kind: "pay", Tries: 2, Worker: "x", Until: 9}})
}

// edge is a number of a job, how it is put there, and from where to where it may be.
type edge struct {
	name        string
	put         func(j *api.Job, n int)
	least, most int
}

func edges() []edge {
	return []edge{
		{"Id", func(j *api.Job, n int) { j.Id = n }, 1, mostIndex},
		{"Inst", func(j *api.Job, n int) { j.Inst = n }, 1, mostIndex},
		{"Token", func(j *api.Job, n int) { j.Token = n }, 1, mostIndex},
		{"Tries", func(j *api.Job, n int) { j.Tries = n }, 0, mostTries},
		{"Tries of a worker", func(j *api.Job, n int) { j.Tries, j.Worker, j.Until = n, "w", 5 }, 1, mostTries},
		{"Until of a worker", func(j *api.Job, n int) { j.Worker, j.Until = "w", n }, 0, mostIndex},
		{"Until of nobody", func(j *api.Job, n int) { j.Worker, j.Until = "", n }, 0, 0},
	}
}

// 19.1
func TestCheckNumbers(t *testing.T) {
	for _, e := range edges() {
		for n, want := range map[int]api.Errno{
			e.least: api.OK, e.most: api.OK, (e.least + e.most) / 2: api.OK,
			e.least - 1: api.ErrArg, e.most + 1: api.ErrArg, math.MinInt: api.ErrArg, math.MaxInt: api.ErrArg,
		} {
			j := turned(free(1, "pay", 3), func(j *api.Job) { e.put(j, n) })
			if err := Check([]api.Job{j}); err != want {
				t.Errorf("%s %d: %d, wanted %d", e.name, n, err, want)
			}
		}
	}
}

func TestCheckOrder(t *testing.T) {
	row := func(ids ...int) []api.Job {
		var l []api.Job
		for _, id := range ids {
			l = append(l, free(1, "pay", 1))
			l[len(l)-1].Id = id
		}
		return l
	}
	wantCheck(t, nil, api.OK)
	wantCheck(t, []api.Job{}, api.OK)
	wantCheck(t, row(1, 2, 3), api.OK)
	wantCheck(t, row(5, 9, mostIndex), api.OK)
	wantCheck(t, row(mostIndex-1, mostIndex), api.OK)
	wantCheck(t, row(1, 1), api.ErrArg)
	wantCheck(t, row(2, 1), api.ErrArg)
	wantCheck(t, row(1, 3, 2), api.ErrArg)
	wantCheck(t, row(1, 3, 3), api.ErrArg)
	wantCheck(t, row(2, 5, 1, 9), api.ErrArg)
	wantCheck(t, row(1, 3, 2, 4), api.ErrArg)
	wantCheck(t, row(1, 2, mostIndex+1), api.ErrArg)
	wantCheck(t, row(0, 1), api.ErrArg)
}

func TestCheckNames(t *testing.T) {
	for _, name := range []string{"a", "z9", "pay", longName(mostName)} {
		wantCheck(t, []api.Job{free(1, name, 1)}, api.OK)
		wantCheck(t, []api.Job{held(1, "pay", 1, name, 5)}, api.OK)
	}
	for _, text := range noNames() {
		wantCheck(t, []api.Job{free(1, text, 1)}, api.ErrArg)
		wantCheck(t, []api.Job{held(1, "pay", 1, text, 5)}, api.ErrArg)
		wantCheck(t, []api.Job{free(1, "pay", 1), free(2, text, 1)}, api.ErrArg)
	}
	wantCheck(t, []api.Job{held(1, "pay", 1, "1a", 0)}, api.ErrArg)
}

func TestCheckHolders(t *testing.T) {
	wantCheck(t, []api.Job{held(1, "pay", 1, "w", 0)}, api.OK) // a worker's Until may be 0, as 19.1 says it
	wantCheck(t, []api.Job{held(1, "pay", 1, "", 1)}, api.ErrArg)
	wantCheck(t, []api.Job{held(1, "pay", 0, "", 1)}, api.ErrArg)
	wantCheck(t, []api.Job{held(1, "pay", 0, "w", 1)}, api.ErrArg)
	wantCheck(t, []api.Job{held(1, "pay", 0, "w", 0)}, api.ErrArg)
	wantCheck(t, []api.Job{held(1, "pay", mostTries, "w", 1)}, api.OK)
	wantCheck(t, []api.Job{free(1, "pay", 0)}, api.OK)
}

func TestCheckLooksAtEachJob(t *testing.T) {
	for at := range 4 {
		for _, e := range edges() {
			l := []api.Job{free(1, "pay", 1), free(2, "pay", 1), held(3, "ship", 1, "w", 9), free(4, "pay", 1)}
			e.put(&l[at], e.most+1)
			wantCheck(t, l, api.ErrArg)
		}
	}
}

// 19.2
func TestGet(t *testing.T) {
	l := []api.Job{free(2, "pay", 3), held(5, "ship", 1, "w", 7), free(6, "pay", 0), free(mostIndex, "ask", 9)}
	for _, j := range l {
		if got, found := Get(l, j.Id); !found || got != j {
			t.Errorf("Get(%d) = %v, %v", j.Id, got, found)
		}
	}
	for _, id := range []int{1, 3, 4, 7, mostIndex - 1, mostIndex + 1, 0, -1, math.MinInt, math.MaxInt} {
		if got, found := Get(l, id); found || got != (api.Job{}) {
			t.Errorf("Get(%d) = %v, %v", id, got, found)
		}
	}
	for _, id := range []int{0, 1, 2} {
		if got, found := Get(nil, id); found || got != (api.Job{}) {
			t.Errorf("Get of none(%d) = %v, %v", id, got, found)
		}
	}
}

func TestGetOfEach(t *testing.T) {
	for many := range 20 {
		var l []api.Job
		for k := range many {
			l = append(l, free(3*k+2, "pay", k%10))
		}
		for id := range 3*many + 4 {
			got, found := Get(l, id)
			if there := id%3 == 2 && id < 3*many; there != found || there && got != l[id/3] || !there && got != (api.Job{}) {
				t.Errorf("Get(%d) of %d = %v, %v", id, many, got, found)
			}
		}
	}
}

// 19.3
func TestAdd(t *testing.T) {
	l := []api.Job{free(2, "pay", 3), held(5, "ship", 1, "w", 7)}
	wantAdd(t, nil, free(1, "pay", 1), []api.Job{free(1, "pay", 1)}, api.OK)
	wantAdd(t, []api.Job{}, free(mostIndex-300, "pay", 0), []api.Job{free(mostIndex-300, "pay", 0)}, api.OK)
	wantAdd(t, l, free(6, "pay", 9), []api.Job{l[0], l[1], free(6, "pay", 9)}, api.OK)
	wantAdd(t, l, held(60, "ask", 1, "x", 8), []api.Job{l[0], l[1], held(60, "ask", 1, "x", 8)}, api.OK)
	for _, id := range []int{5, 4, 3, 2, 1} {
		wantAdd(t, l, free(id, "pay", 1), nil, api.ErrTwice)
	}
	last := turned(free(1, "pay", 1), func(j *api.Job) { j.Id = mostIndex })
	wantAdd(t, l, last, []api.Job{l[0], l[1], last}, api.OK)
	wantAdd(t, []api.Job{last}, free(9, "pay", 1), nil, api.ErrTwice)
}

func TestAddWhatMayNotBe(t *testing.T) {
	l := []api.Job{free(2, "pay", 3)}
	for _, e := range edges() {
		for _, n := range []int{e.most + 1, e.least - 1} {
			j := turned(free(3, "pay", 1), func(j *api.Job) { e.put(j, n) })
			want := api.ErrArg
			if j.Id <= 2 { // a number below another one's is told first
				want = api.ErrTwice
			}
			wantAdd(t, l, j, nil, want)
			wantAdd(t, nil, j, nil, api.ErrArg)
		}
	}
	for _, text := range noNames() {
		wantAdd(t, l, free(3, text, 1), nil, api.ErrArg)
		wantAdd(t, l, held(3, "pay", 1, text, 4), nil, api.ErrArg)
		wantAdd(t, l, free(2, text, 1), nil, api.ErrTwice)
		wantAdd(t, l, free(1, text, 1), nil, api.ErrTwice)
	}
	wantAdd(t, l, held(3, "pay", 1, "w", 0), []api.Job{l[0], held(3, "pay", 1, "w", 0)}, api.OK)
	wantAdd(t, l, held(3, "pay", 1, "", 1), nil, api.ErrArg)
	wantAdd(t, l, held(3, "pay", 0, "w", 1), nil, api.ErrArg)
}

// 19.4
func TestLendErrors(t *testing.T) {
	for _, text := range noNames() {
		wantLendRefused(t, text, "w", 1, 2, 1, api.ErrArg)
		wantLendRefused(t, "pay", text, 1, 2, 1, api.ErrArg)
		wantLendRefused(t, text, text, -1, -2, 0, api.ErrArg)
		wantLendRefused(t, "pay", text, -1, 2, 1, api.ErrArg)
		wantLendRefused(t, text, "w", 1, 2, mostLent+1, api.ErrArg)
	}
	for _, c := range [][3]int{
		{-1, 5, 1}, {math.MinInt, 5, 1}, {-1, 0, 1},
		{5, 5, 1}, {5, 4, 1}, {0, 0, 1}, {0, -1, 1}, {5, math.MinInt, 1}, {math.MaxInt, math.MinInt, 1},
		{5, mostIndex + 1, 1}, {mostIndex, mostIndex + 1, 1}, {mostIndex, mostIndex, 1}, {0, math.MaxInt, 1},
		{5, 9, 0}, {5, 9, -1}, {5, 9, mostLent + 1}, {5, 9, math.MaxInt}, {5, 9, math.MinInt},
	} {
		wantLendRefused(t, "pay", "w", c[0], c[1], c[2], api.ErrRange)
	}
	for _, c := range [][3]int{{0, 1, 1}, {0, mostIndex, mostLent}, {mostIndex - 1, mostIndex, 1}} {
		l := []api.Job{free(1, "pay", 3)}
		all, lent, err := Lend(l, "pay", longName(mostName), c[0], c[1], c[2])
		want := []api.Job{held(1, "pay", 3, longName(mostName), c[1])}
		if err != api.OK || !same(all, want) || !same(lent, want) {
			t.Errorf("Lend at %v = %v, %v, %d", c, all, lent, err)
		}
	}
}

func TestLendMost(t *testing.T) {
	var l []api.Job
	for id := 1; id <= 12; id++ {
		l = append(l, free(id, "pay", 1))
	}
	wantLent(t, l, 1, 1)
	wantLent(t, l, 2, 1, 2)
	wantLent(t, l, mostLent-1, 1, 2, 3, 4, 5, 6, 7)
	wantLent(t, l, mostLent, 1, 2, 3, 4, 5, 6, 7, 8)
	wantLent(t, l[:3], mostLent, 1, 2, 3)
	wantLent(t, l[:3], 3, 1, 2, 3)
	wantLent(t, l[:3], 2, 1, 2)
	wantLent(t, nil, mostLent)
	wantLent(t, nil, 1)
}

func TestLendWhich(t *testing.T) {
	wantLent(t, []api.Job{free(1, "ship", 3), free(2, "pay", 3), free(3, "payb", 3), free(4, "pa", 3), free(5, "pay", 1)}, 8, 2, 5)
	wantLent(t, []api.Job{free(1, "pay", 0), free(2, "pay", 3), free(3, "pay", 0), free(4, "pay", 9)}, 8, 2, 4)
	wantLent(t, []api.Job{ // Lend is asked at 10
		held(1, "pay", 3, "x", 9), held(2, "pay", 3, "x", 10), held(3, "pay", 3, "x", 11),
		held(4, "pay", 3, "w", 9), held(5, "pay", 3, "w", 10), held(6, "pay", 3, "w", 11),
		held(7, "pay", 1, "x", 0), held(8, "pay", 1, "x", mostIndex), held(9, "ship", 1, "x", 5),
	}, 8, 1, 2, 4, 5, 7)
	wantLent(t, []api.Job{free(1, "ship", 3), held(2, "pay", 3, "x", 11), free(3, "pay", 0), free(4, "pay", 3), free(5, "pay", 3)}, 1, 4)
	wantLent(t, []api.Job{free(1, "ship", 3), held(2, "pay", 3, "x", 11), free(3, "pay", 0)}, 8)
}

// 19.5, 19.6
func TestEndErrors(t *testing.T) {
	l := []api.Job{held(2, "pay", 3, "w", 9), free(5, "pay", 3), held(7, "pay", 1, "x", mostIndex), free(9, "pay", 0), held(11, "pay", 1, "y", 0)}
	for _, end := range []ender{Done, Fail} {
		for _, id := range []int{1, 3, 4, 6, 8, 10, 12, 0, -1, math.MinInt, math.MaxInt} {
			for _, worker := range []string{"w", "x", ""} {
				wantEndRefused(t, end, l, id, worker, 4, api.ErrNone)
				wantEndRefused(t, end, nil, id, worker, 4, api.ErrNone)
			}
		}
		for _, worker := range []string{"x", "", "W", "wx", "w ", "v"} {
			wantEndRefused(t, end, l, 2, worker, 4, api.ErrState)
			wantEndRefused(t, end, l, 5, worker, 4, api.ErrState)
			wantEndRefused(t, end, l, 5, worker, -4, api.ErrState)
			wantEndRefused(t, end, l, 9, worker, -4, api.ErrState)
		}
		for _, now := range []int{9, 10, mostIndex, math.MaxInt} {
			wantEndRefused(t, end, l, 2, "w", now, api.ErrState)
		}
		wantEndRefused(t, end, l, 7, "x", mostIndex, api.ErrState)
		wantEndRefused(t, end, l, 7, "w", mostIndex-1, api.ErrState)
		wantEndRefused(t, end, l, 11, "y", 0, api.ErrState)
	}
}

func TestDone(t *testing.T) {
	l := []api.Job{held(2, "pay", 3, "w", 9), held(5, "pay", 2, "w", 8), held(7, "ship", 1, "x", mostIndex)}
	wantEnd(t, Done, l, 2, "w", 8, []api.Job{l[1], l[2]}, l[0])
	wantEnd(t, Done, l, 5, "w", 7, []api.Job{l[0], l[2]}, l[1])
	wantEnd(t, Done, l, 7, "x", mostIndex-1, []api.Job{l[0], l[1]}, l[2])
	wantEnd(t, Done, l, 2, "w", 0, []api.Job{l[1], l[2]}, l[0])
	wantEnd(t, Done, l, 2, "w", -5, []api.Job{l[1], l[2]}, l[0])
	wantEnd(t, Done, l[:1], 2, "w", 8, nil, l[0])
}

func TestFail(t *testing.T) {
	l := []api.Job{held(2, "pay", 3, "w", 9), held(5, "pay", 1, "w", 8), held(7, "ship", 9, "x", mostIndex)}
	wantEnd(t, Fail, l, 2, "w", 8, []api.Job{free(2, "pay", 2), l[1], l[2]}, free(2, "pay", 2))
	wantEnd(t, Fail, l, 5, "w", 7, []api.Job{l[0], free(5, "pay", 0), l[2]}, free(5, "pay", 0))
	wantEnd(t, Fail, l, 7, "x", mostIndex-1, []api.Job{l[0], l[1], free(7, "ship", 8)}, free(7, "ship", 8))
	wantEnd(t, Fail, l[:1], 2, "w", 0, []api.Job{free(2, "pay", 2)}, free(2, "pay", 2))
	wantEnd(t, Fail, l[:1], 2, "w", -5, []api.Job{free(2, "pay", 2)}, free(2, "pay", 2))
}

// 19.7
func TestAgain(t *testing.T) {
	l := []api.Job{free(2, "pay", 0), free(5, "pay", 1), held(7, "pay", 9, "w", 9), free(9, "ship", 0)}
	for _, tries := range []int{1, 2, mostTries} {
		wantAgain(t, l, 2, tries, []api.Job{free(2, "pay", tries), l[1], l[2], l[3]}, api.OK)
		wantAgain(t, l, 9, tries, []api.Job{l[0], l[1], l[2], free(9, "ship", tries)}, api.OK)
		wantAgain(t, l, 5, tries, nil, api.ErrState)
		wantAgain(t, l, 7, tries, nil, api.ErrState)
		for _, id := range []int{1, 3, 8, 10, 0, -1, math.MaxInt, math.MinInt} {
			wantAgain(t, l, id, tries, nil, api.ErrNone)
			wantAgain(t, nil, id, tries, nil, api.ErrNone)
		}
	}
	for _, tries := range []int{0, -1, mostTries + 1, math.MaxInt, math.MinInt} {
		for _, id := range []int{2, 3, 5, 7, 0} { // of one that is there, of none, of one with tries
			wantAgain(t, l, id, tries, nil, api.ErrRange)
			wantAgain(t, nil, id, tries, nil, api.ErrRange)
		}
	}
}

// 19.8
func TestWithout(t *testing.T) {
	of := func(id, inst int) api.Job {
		return turned(free(id, "pay", 1), func(j *api.Job) { j.Inst = inst })
	}
	l := []api.Job{of(1, 7), of(2, 8), of(3, 7), of(4, 7), held(5, "pay", 1, "w", 9), of(6, 7)}
	for inst, want := range map[int][]api.Job{
		7: {l[1], l[4]}, 8: {l[0], l[2], l[3], l[4], l[5]}, 105: {l[0], l[1], l[2], l[3], l[5]},
		1: l, 0: l, -7: l, math.MaxInt: l, math.MinInt: l,
	} {
		if got := Without(l, inst); !same(got, want) {
			t.Errorf("Without(%d) = %v, wanted %v", inst, ids(got), ids(want))
		}
	}
	if got := Without(l[2:4], 7); len(got) != 0 {
		t.Errorf("Without all = %v", got)
	}
	if got := Without(nil, 7); len(got) != 0 {
		t.Errorf("Without of none = %v", got)
	}
}

// What no promise speaks of may answer anything, but may not panic.
func TestJobsThatMayNotBe(t *testing.T) {
	l := []api.Job{free(5, "", -1), free(2, "pay", 99), {Id: -1, Worker: "w", Until: -9}, {Id: math.MinInt, Tries: math.MinInt}, {Id: math.MaxInt, Until: math.MaxInt, Worker: "w"}}
	for _, jobs := range [][]api.Job{l, slices.Concat(l[2:], l[:2])} {
		for _, id := range []int{5, 2, -1, math.MinInt, math.MaxInt, 0} {
			Get(jobs, id)
			Add(jobs, free(id, "pay", 1))
			Done(jobs, id, "w", -99)
			Fail(jobs, id, "w", -99)
			Again(jobs, id, 1)
			Without(jobs, id)
		}
		Lend(jobs, "pay", "w", 5, 9, 8)
		Put(nil, jobs)
	}
}
