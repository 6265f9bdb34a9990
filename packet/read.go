package packet

import (
	"bytes"

	"funicular/api"
	"funicular/crc"
	"funicular/pack"
)

// Read is the packet that bytes are.
func Read(b []byte) (api.Packet, api.Errno) {
	body, err := unsummed(b)
	if err != api.OK {
		return api.Packet{}, err
	}
	p, err := readAll(body)
	if err != api.OK {
		return api.Packet{}, err
	}
	if err := Check(p); err != api.OK {
		return api.Packet{}, err
	}
	return p, api.OK
}

// unsummed is bytes without the sum behind them, which must be theirs.
func unsummed(b []byte) ([]byte, api.Errno) {
	if len(b) < sumSize {
		return nil, api.ErrShort
	}
	body := b[:len(b)-sumSize]
	var sum uint32
	for i, c := range b[len(body):] {
		sum |= uint32(c) << (8 * i)
	}
	if sum != crc.Sum(body) {
		return nil, api.ErrSum
	}
	return body, api.OK
}

// readAll is the packet that bytes without a sum are; whether it may be, is not looked at.
func readAll(b []byte) (api.Packet, api.Errno) {
	r := reader{rest: b}
	p := r.packet()
	switch {
	case r.err != api.OK:
		return api.Packet{}, r.err
	case len(r.rest) > 0:
		return api.Packet{}, api.ErrSyntax
	}
	return p, api.OK
}

// reader goes through bytes, and keeps the first error; from then on it tells 0 and no bytes, so that all that is still asked for ends at once.
type reader struct {
	rest []byte
	err  api.Errno
}

func (r *reader) packet() api.Packet {
	next := r.number
	p := api.Packet{From: next(api.MaxNodes), To: next(api.MaxNodes)}
	for range next(api.MaxMsgs) {
		m := r.msg()
		m.From, m.To = p.From, p.To
		p.Msgs = append(p.Msgs, m)
	}
	return p
}

// msg is a message without From and To.
func (r *reader) msg() api.Msg {
	next := r.number
	m := api.Msg{
		Kind:   next(api.MSnap),
		Group:  next(api.MaxParts),
		Term:   next(api.MaxIndex),
		At:     next(api.MaxIndex),
		AtTerm: next(api.MaxIndex),
		Commit: next(api.MaxIndex),
		Ok:     next(1) == 1,
	}
	for range next(api.MaxBatch) {
		m.Entries = append(m.Entries, api.Entry{Term: next(api.MaxIndex), Data: r.bytes()})
	}
	m.Data = r.bytes()
	return m
}

// number is the next number, of which most is the greatest that it may be.
func (r *reader) number(most uint64) int {
	if r.err != api.OK {
		return 0
	}
	n, rest, err := pack.ReadUint(r.rest)
	if err == api.OK && n > most {
		n, err = 0, api.ErrLimit
	}
	r.rest, r.err = rest, err
	return int(n)
}

// bytes is the next bytes, in new memory.
func (r *reader) bytes() []byte {
	if r.err != api.OK {
		return nil
	}
	b, rest, err := pack.ReadBytes(r.rest)
	r.rest, r.err = rest, err
	return bytes.Clone(b)
}
