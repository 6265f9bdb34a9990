package jobs

import (
	"bytes"

	"funicular/api"
	"funicular/pack"
)

// Put is bytes with a table behind.
func Put(b []byte, l []api.Job) []byte {
	b = pack.Uint(b, uint64(len(l)))
	for _, j := range l {
		for _, n := range [...]int{j.Id, j.Inst, j.Token, j.Tries, j.Until} {
			b = pack.Uint(b, uint64(n))
		}
		b = pack.Bytes(b, []byte(j.Kind))
		b = pack.Bytes(b, []byte(j.Worker))
	}
	return b
}

// Read is the table that bytes begin with, and the bytes behind.
func Read(b []byte) ([]api.Job, []byte, api.Errno) {
	r := reader{rest: b}
	l := r.jobs()
	if r.err == api.OK { // Check comes at last
		r.err = Check(l)
	}
	if r.err != api.OK {
		return nil, nil, r.err
	}
	return l, bytes.Clone(r.rest), api.OK
}

// reader goes through bytes, and keeps the first error; behind that it tells 0 and no text.
type reader struct {
	rest []byte
	err  api.Errno
}

// jobs is a table, whether or not it may be.
func (r *reader) jobs() []api.Job {
	var l []api.Job
	many := r.count()
	for range many {
		l = append(l, r.job())
		if r.err != api.OK { // there may be said to be far more jobs than there are bytes
			return nil
		}
	}
	return l
}

func (r *reader) job() api.Job {
	next := r.number
	return api.Job{
		Id: next(), Inst: next(), Token: next(), Tries: next(), Until: next(),
		Kind: r.text(), Worker: r.text(),
	}
}

// count is the next number, however great it is.
func (r *reader) count() uint64 {
	if r.err != api.OK {
		return 0
	}
	n, rest, err := pack.ReadUint(r.rest)
	r.rest, r.err = rest, err
	return n
}

// number is the next number of a job.
func (r *reader) number() int {
	n := r.count()
	if n > api.MaxIndex {
		r.err = api.ErrLimit
		return 0
	}
	return int(n)
}

// text is the next text.
func (r *reader) text() string {
	if r.err != api.OK {
		return ""
	}
	b, rest, err := pack.ReadBytes(r.rest)
	r.rest, r.err = rest, err
	return string(b)
}
