package packet

import (
	"hash/crc32"
	"math/big"
	"math/rand"
	"slices"
	"testing"

	"funicular/api"
)

// wordedCheck is 17.1 and 17.2 in the document's words: all that is wrong is gathered, and what is named first is told.
func wordedCheck(p api.Packet) api.Errno {
	within := func(n, from, upto int) bool { return !(n < from) && !(n > upto) }
	ends := within(p.From, 1, 7) && within(p.To, 1, 7) && p.From != p.To
	msgs := true
	for _, m := range p.Msgs {
		kind := slices.Contains([]int{1, 2, 3, 4, 5, 6, 7}, m.Kind)
		numbers := true
		for _, n := range []int{m.Term, m.At, m.AtTerm, m.Commit} {
			numbers = numbers && within(n, 0, 1099511627776)
		}
		entries := len(m.Entries) <= 8
		for _, e := range m.Entries {
			entries = entries && within(e.Term, 1, 1099511627776) && len(e.Data) <= 65536
		}
		sent := kind && within(m.Group, 0, 63) && numbers && entries && len(m.Data) <= 65536
		msgs = msgs && sent && m.From == p.From && m.To == p.To
	}
	if !ends {
		return 1
	}
	if len(p.Msgs) > 256 {
		return 6
	}
	if !msgs {
		return 1
	}
	return 0
}

// wrong is an error that ends a reading.
type wrong api.Errno

// wordedReader reads bytes from the left, and throws the first error.
type wordedReader struct {
	b  []byte
	at int
}

// number is 2.1's: its digits of base 128, the lowest first, and 17.4's limit.
func (r *wordedReader) number(most int64) int {
	n, power := new(big.Int), big.NewInt(1)
	for i := 0; ; i++ {
		if r.at == len(r.b) {
			panic(wrong(api.ErrShort))
		}
		c := r.b[r.at]
		r.at++
		if i == 9 && c > 1 || c == 0 && i > 0 {
			panic(wrong(api.ErrRange))
		}
		n.Add(n, new(big.Int).Mul(power, big.NewInt(int64(c&127))))
		power.Mul(power, big.NewInt(128))
		if c < 128 {
			break
		}
	}
	if most >= 0 && n.Cmp(big.NewInt(most)) > 0 {
		panic(wrong(api.ErrLimit))
	}
	if !n.IsInt64() {
		panic(wrong(api.ErrShort)) // as many bytes there are not
	}
	return int(n.Int64())
}

// text is 2.3's.
func (r *wordedReader) text() []byte {
	n := r.number(-1)
	if n > len(r.b)-r.at {
		panic(wrong(api.ErrShort))
	}
	r.at += n
	return r.b[r.at-n : r.at]
}

// wordedRead is 17.4 in the document's words.
func wordedRead(b []byte) (p api.Packet, err api.Errno) {
	defer func() {
		if e, ok := recover().(wrong); ok {
			p, err = api.Packet{}, api.Errno(e)
		}
	}()
	if len(b) < 4 {
		panic(wrong(api.ErrShort))
	}
	ahead, last := b[:len(b)-4], b[len(b)-4:]
	sum := crc32.ChecksumIEEE(ahead)
	for i := range 4 {
		if last[i] != byte(sum>>(8*i)) {
			panic(wrong(api.ErrSum))
		}
	}
	r := &wordedReader{b: ahead}
	p.From = r.number(7)
	p.To = r.number(7)
	n := r.number(256)
	for range n {
		p.Msgs = append(p.Msgs, wordedMsg(r, p))
	}
	if r.at < len(ahead) {
		panic(wrong(api.ErrSyntax))
	}
	if err := wordedCheck(p); err != api.OK {
		panic(wrong(err))
	}
	return p, api.OK
}

func wordedMsg(r *wordedReader, p api.Packet) api.Msg {
	m := api.Msg{From: p.From, To: p.To}
	m.Kind = r.number(7)
	m.Group = r.number(64)
	for _, field := range []*int{&m.Term, &m.At, &m.AtTerm, &m.Commit} {
		*field = r.number(1099511627776)
	}
	m.Ok = r.number(1) != 0
	n := r.number(8)
	for range n {
		term := r.number(1099511627776)
		m.Entries = append(m.Entries, api.Entry{Term: term, Data: r.text()})
	}
	m.Data = r.text()
	return m
}

// draw draws packets, and bytes.
type draw struct{ *rand.Rand }

// near is one of the numbers about which something turns.
func (d draw) near(list ...int) int { return list[d.Intn(len(list))] }

func (d draw) index() int {
	if d.Intn(3) == 0 {
		return d.Intn(mostIndex + 1)
	}
	return d.near(0, 1, 2, 127, 128, 16383, 16384, mostIndex-1, mostIndex)
}

func (d draw) text() []byte {
	b := make([]byte, d.near(0, 0, 1, 2, 5, 20, 127, 128, 300))
	d.Read(b)
	return b
}

func (d draw) msg(from, to int) api.Msg {
	m := api.Msg{Kind: 1 + d.Intn(7), Group: d.Intn(parts), From: from, To: to, Term: d.index(), At: d.index(), AtTerm: d.index(), Commit: d.index(), Ok: d.Intn(2) == 0}
	for range d.near(0, 0, 1, 2, 8) {
		m.Entries = append(m.Entries, api.Entry{Term: max(1, d.index()), Data: d.text()})
	}
	if d.Intn(2) == 0 {
		m.Data = d.text()
	}
	return m
}

// packet is one that may be.
func (d draw) packet() api.Packet {
	from := 1 + d.Intn(nodes)
	to := 1 + (from+d.Intn(nodes-1))%nodes
	p := api.Packet{From: from, To: to}
	for range d.near(0, 1, 1, 2, 3, 6) {
		p.Msgs = append(p.Msgs, d.msg(from, to))
	}
	return p
}

// spoil turns something of a packet that may make it one that may not be.
func (d draw) spoil(p *api.Packet) {
	list := []*int{&p.From, &p.To}
	for i := range p.Msgs {
		m := &p.Msgs[i]
		list = append(list, &m.Kind, &m.Group, &m.From, &m.To, &m.Term, &m.At, &m.AtTerm, &m.Commit)
		for j := range m.Entries {
			list = append(list, &m.Entries[j].Term)
		}
		if d.Intn(20) == 0 {
			m.Entries = slices.Repeat([]api.Entry{entry(1, "")}, d.near(8, 9))
		}
		if d.Intn(20) == 0 {
			m.Data = make([]byte, mostData+d.Intn(2))
		}
	}
	*list[d.Intn(len(list))] = d.near(-1, 0, 1, 2, 7, 8, 63, 64, 65, mostIndex, mostIndex+1)
}

// TestThereAndBack is 17.6's: drawn packets are read as what they were, and no bit of what is written may be turned.
func TestThereAndBack(t *testing.T) {
	d := draw{rand.New(rand.NewSource(1))}
	for i := range 4000 {
		p := d.packet()
		wantWritten(t, p, written(p))
		if i%100 == 0 {
			b, _ := Put(p)
			if len(b) > 600 {
				b, _ = Put(between12(d.msg(1, 2)))
			}
			bits(t, b)
		}
	}
}

// TestCheckWorded holds Check and Put against the words, of drawn packets that may be, and may not.
func TestCheckWorded(t *testing.T) {
	d := draw{rand.New(rand.NewSource(2))}
	seen := map[api.Errno]int{}
	for range 20000 {
		p := d.packet()
		for range d.Intn(3) {
			d.spoil(&p)
		}
		if d.Intn(50) == 0 {
			p.Msgs = append(p.Msgs, many(mostMsgs+d.Intn(2)-d.Intn(len(p.Msgs)+1))...)
			p.From, p.To = 1, d.near(1, 2)
		}
		want := wordedCheck(p)
		seen[want]++
		if want == api.OK {
			wantWritten(t, p, written(p))
		} else {
			wantRefused(t, p, want)
		}
	}
	if seen[api.OK] < 1000 || seen[api.ErrArg] < 1000 || seen[api.ErrLimit] < 20 {
		t.Errorf("too few of a kind: %v", seen)
	}
}

// wantAsWorded fails the test, unless Read answers of bytes what the words say, and what it read is written as these bytes.
func wantAsWorded(t *testing.T, b []byte) api.Errno {
	t.Helper()
	want, wantErr := wordedRead(b)
	p, err := Read(b)
	if err != wantErr || !same(p, want) {
		t.Fatalf("Read of %v: %d, wanted %d", head(b), err, wantErr)
	}
	if err == api.OK {
		if again, err := Put(p); err != api.OK || !slices.Equal(again, b) {
			t.Fatalf("%v is written again as %v, %d", head(b), head(again), err)
		}
	}
	return err
}

// mangle is bytes with something put in, taken out, or turned.
func (d draw) mangle(b []byte) []byte {
	b = slices.Clone(b)
	at := d.Intn(len(b) + 1)
	upto := min(len(b), at+1+d.Intn(3))
	switch d.Intn(4) {
	case 0:
		return slices.Insert(b, at, byte(d.near(0, 1, 2, 127, 128, 255)))
	case 1:
		return slices.Delete(b, at, upto)
	case 2:
		return b[:at]
	default:
		for i := at; i < upto; i++ {
			b[i] = byte(d.near(0, 1, 2, 7, 8, 9, 63, 64, 65, 128, 255))
		}
		return b
	}
}

// TestReadWorded holds Read against the words, of bytes that are near to packets, with a right sum, and each that is read is written again as just these bytes.
func TestReadWorded(t *testing.T) {
	d := draw{rand.New(rand.NewSource(3))}
	seen := map[api.Errno]int{}
	for range 60000 {
		b := unsummedBytes(d.packet())
		for range 1 + d.Intn(2) {
			b = d.mangle(b)
		}
		b = summed(b)
		if d.Intn(20) == 0 {
			b = d.mangle(b)
		}
		seen[wantAsWorded(t, b)]++
	}
	for _, err := range []api.Errno{api.OK, api.ErrShort, api.ErrSum, api.ErrRange, api.ErrLimit, api.ErrSyntax, api.ErrArg} {
		if seen[err] < 100 {
			t.Errorf("too few of error %d: %v", err, seen)
		}
	}
}

// TestDrawnBytes: of drawn bytes, small ones with a right sum, each that is read is written again as just these.
func TestDrawnBytes(t *testing.T) {
	d := draw{rand.New(rand.NewSource(4))}
	read := 0
	for range 300000 {
		b := make([]byte, 3+d.Intn(24))
		for i := range b {
			b[i] = byte(d.near(0, 0, 0, 1, 1, 2))
		}
		if d.Intn(2) == 0 {
			copy(b, []byte{2, 1, byte(d.near(0, 1, 1, 2))})
		}
		if wantAsWorded(t, summed(b)) == api.OK {
			read++
		}
	}
	if read < 1000 {
		t.Errorf("no more than %d were read", read)
	}
	for range 20000 {
		b := make([]byte, d.Intn(40))
		d.Read(b)
		wantAsWorded(t, b)
		wantAsWorded(t, summed(b))
	}
}
