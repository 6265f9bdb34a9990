package jobs

import (
	"encoding/binary"
	"math"
	"slices"
	"testing"

	"funicular/api"
)

// row is a number's row by the library's own digits of seven bits.
func row(n uint64) []byte { return binary.AppendUvarint(nil, n) }

// joined is numbers as rows and texts with their length ahead, one behind the other.
func joined(list ...any) []byte {
	var b []byte
	for _, one := range list {
		switch x := one.(type) {
		case int:
			b = append(b, row(uint64(x))...)
		case uint64:
			b = append(b, row(x)...)
		case string:
			b = append(append(b, row(uint64(len(x)))...), x...)
		}
	}
	return b
}

// written is a table's bytes as 19.9 tells them.
func written(l []api.Job) []byte {
	b := joined(len(l))
	for _, j := range l {
		b = append(b, joined(j.Id, j.Inst, j.Token, j.Tries, j.Until, j.Kind, j.Worker)...)
	}
	return b
}

// tables is tables that may be.
func tables() [][]api.Job {
	greatest := api.Job{Id: mostIndex, Inst: mostIndex, Token: mostIndex, Kind: longName(mostName), Tries: mostTries, Worker: longName(mostName), Until: mostIndex}
	var many []api.Job
	for id := 1; id <= 300; id++ {
		many = append(many, free(id, "pay", id%10))
	}
	return [][]api.Job{
		nil,
		{{Id: 1, Inst: 1, Token: 1, Kind: "a"}},
		{greatest},
		{free(3, "pay", 1), held(127, "ship", 2, "w", 128), free(128, "z9", 9), held(129, "pay", 9, "x", 0), greatest},
		many,
	}
}

// 19.9
func TestPut(t *testing.T) {
	for _, l := range tables() {
		for _, ahead := range [][]byte{nil, {}, {0}, {1, 2, 3}} {
			if got, want := Put(ahead, l), slices.Concat(ahead, written(l)); !slices.Equal(got, want) {
				t.Errorf("Put(%v, %v) = %v, wanted %v", ahead, ids(l), got, want)
			}
		}
	}
	l := []api.Job{{Id: 300, Inst: 2, Token: 3, Kind: "pay", Tries: 4, Worker: "w", Until: 5}}
	wantEqual(t, "the bytes", Put([]byte{7}, l), []byte{7, 1, 172, 2, 2, 3, 4, 5, 3, 'p', 'a', 'y', 1, 'w'})
}

// 19.10
func TestReadWhatPutWrote(t *testing.T) {
	for _, l := range tables() {
		for _, behind := range [][]byte{nil, {0}, {128}, {1, 2, 3}, []byte("what lies behind")} {
			wantRead(t, slices.Concat(Put(nil, l), behind), l, behind)
		}
	}
}

func TestReadCutAnywhere(t *testing.T) {
	for _, l := range tables() {
		b := Put(nil, l)
		for k := range b {
			wantNoRead(t, b[:k], api.ErrShort)
		}
	}
}

// field is a job's bytes with other ones in place of the one at a place: 0 to 4 the numbers, 5 and 6 the texts.
func field(at int, other any) []byte {
	list := []any{7, 8, 9, 2, 10, "pay", "w"}
	list[at] = other
	return joined(list...)
}

func TestReadNumbersAtTheLimit(t *testing.T) {
	for at := range 5 {
		for n, want := range map[uint64]api.Errno{
			mostIndex + 1: api.ErrLimit, 1 << 63: api.ErrLimit, math.MaxInt64: api.ErrLimit, math.MaxUint64: api.ErrLimit,
		} {
			b := append([]byte{1}, field(at, n)...)
			wantNoRead(t, b, want)
			wantNoRead(t, append(b, 0), want)
			wantNoRead(t, append(joined(2), slices.Concat(field(1, 3), field(at, n))...), want)
		}
		if at != 3 { // Tries may be no more than MaxTries, which Check tells
			j := turned(held(7, "pay", 2, "w", 10), func(j *api.Job) {
				j.Inst, j.Token = 8, 9
				*[]*int{&j.Id, &j.Inst, &j.Token, &j.Tries, &j.Until}[at] = mostIndex
			})
			wantRead(t, append([]byte{1}, field(at, mostIndex)...), []api.Job{j}, nil)
		}
	}
	wantNoRead(t, append([]byte{1}, field(3, mostIndex)...), api.ErrArg)
	wantNoRead(t, append([]byte{1}, field(3, mostTries+1)...), api.ErrArg)
}

func TestReadRowsThatAreNone(t *testing.T) {
	for at := range 7 {
		list := []any{7, 8, 9, 2, 10, "pay", "w"}
		ahead := append([]byte{1}, joined(list[:at]...)...)
		wantNoRead(t, append(slices.Clone(ahead), 0x81, 0), api.ErrRange)
		wantNoRead(t, append(slices.Clone(ahead), 0xff, 0xff, 0xff, 0xff, 0xff, 0xff, 0xff, 0xff, 0xff, 2), api.ErrRange)
		wantNoRead(t, append(slices.Clone(ahead), 0xff, 0xff), api.ErrShort)
	}
	wantNoRead(t, []byte{0x81, 0}, api.ErrRange)
	wantNoRead(t, []byte{0xff, 0xff, 0xff, 0xff, 0xff, 0xff, 0xff, 0xff, 0xff, 2}, api.ErrRange)
	wantNoRead(t, nil, api.ErrShort)
	wantNoRead(t, []byte{0x80}, api.ErrShort)
}

func TestReadMoreJobsThanThereAre(t *testing.T) {
	one := field(0, 7)
	for _, many := range []uint64{2, 3, 4096, mostIndex, mostIndex + 1, 1 << 63, math.MaxUint64} {
		wantNoRead(t, row(many), api.ErrShort)
		wantNoRead(t, append(row(many), one...), api.ErrShort)
		wantNoRead(t, append(row(many), one[:len(one)-1]...), api.ErrShort)
	}
	wantRead(t, append(row(0), one...), nil, one)
	wantRead(t, append(row(1), one...), []api.Job{{Id: 7, Inst: 8, Token: 9, Kind: "pay", Tries: 2, Worker: "w", Until: 10}}, nil)
}

func TestReadJobsThatMayNotBe(t *testing.T) {
	for _, l := range [][]api.Job{
		{free(1, "pay", 10)}, {free(1, "", 1)}, {free(1, "1a", 1)}, {held(1, "pay", 1, "1a", 2)},
		{held(1, "pay", 0, "w", 2)}, {held(1, "pay", 1, "", 2)}, {held(1, "pay", 0, "", 2)},
		{free(0, "pay", 1)}, {free(2, "pay", 1), free(2, "pay", 1)}, {free(2, "pay", 1), free(1, "pay", 1)},
		{turned(free(1, "pay", 1), func(j *api.Job) { j.Inst = 0 })}, {turned(free(1, "pay", 1), func(j *api.Job) { j.Token = 0 })},
		{free(1, "pay", 1), free(2, longName(mostName+1), 1)},
	} {
		wantNoRead(t, written(l), api.ErrArg)
		wantNoRead(t, append(written(l), 1, 2), api.ErrArg)
	}
}

func TestReadWhichErrorComesFirst(t *testing.T) {
	wrong := joined(0, 0, 0, 0, 0, "", "") // Check's alone
	over := joined(mostIndex+1, 0, 0, 0, 0, "", "")
	torn := []byte{0x81, 0}
	start := func(n byte, parts ...[]byte) []byte { return append([]byte{n}, slices.Concat(parts...)...) }
	wantNoRead(t, start(2, wrong, over), api.ErrLimit)
	wantNoRead(t, start(2, wrong, torn), api.ErrRange)
	wantNoRead(t, start(2, wrong), api.ErrShort)
	wantNoRead(t, start(2, over, torn), api.ErrLimit)
	wantNoRead(t, start(2, over), api.ErrLimit)
	wantNoRead(t, start(2, torn, over), api.ErrRange)
	wantNoRead(t, start(1, joined(mostIndex+1)), api.ErrLimit)
	wantNoRead(t, start(1, joined(mostIndex+1), torn), api.ErrLimit)
	wantNoRead(t, start(1, joined(1, mostIndex+1, 1, 1), torn), api.ErrLimit)
	wantNoRead(t, start(1, joined(1, 1, 1), torn, joined(mostIndex+1)), api.ErrRange)
	wantNoRead(t, start(1, joined(1, 1, 1, 1, mostIndex+1, "pay", "w")), api.ErrLimit)
	wantNoRead(t, start(1, joined(1, 1, 1, 1, 0), torn), api.ErrRange)
	wantNoRead(t, start(1, joined(1, 1, 1, 1, 0, ""), torn), api.ErrRange)
	wantNoRead(t, start(1, joined(1, 1, 1, 1, 0, ""), row(9)), api.ErrShort)
	wantNoRead(t, start(1, joined(1, 1, 1, 1, 0, ""), row(math.MaxUint64)), api.ErrShort)
}
