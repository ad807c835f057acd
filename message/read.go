package message

import (
	"hearsay/api"
	"hearsay/octet"
	"hearsay/press"
	"hearsay/rdata"
)

// Unpack is the message that bytes tell.
func Unpack(b []byte) (m api.Message, e api.Errno) {
	defer func() {
		if thrown := recover(); thrown != nil {
			m, e = api.Message{}, thrown.(api.Errno)
		}
	}()
	m, e = Head(b)
	giveUp(e)
	r := &reading{bytes: b, at: countsAt}
	questions, records := r.counts()
	if len(b) > api.MaxMessage {
		giveUp(api.ErrLong)
	}
	for range questions {
		m.Questions = append(m.Questions, r.question())
	}
	for i, part := range parts(&m) {
		for range records[i] {
			*part = append(*part, r.record())
		}
	}
	if r.at < len(b) {
		giveUp(api.ErrTail)
	}
	return m, api.OK
}

// Head is the message that the first bytes tell.
func Head(b []byte) (api.Message, api.Errno) {
	if len(b) < headSize {
		return api.Message{}, api.ErrShort
	}
	r := &reading{bytes: b}
	m := api.Message{ID: number[uint16](r)}
	flags, left := number[uint16](r), 16
	cut := func(bits int) uint16 {
		left -= bits
		return flags >> left & (1<<bits - 1)
	}
	m.Reply = cut(1) == 1
	m.Opcode = uint8(cut(4))
	m.AA = cut(1) == 1
	m.TC = cut(1) == 1
	m.RD = cut(1) == 1
	m.RA = cut(1) == 1
	m.Z = uint8(cut(3))
	m.Rcode = uint8(cut(4))
	return m, api.OK
}

// reading is a message that is read from the front, and the place of what comes next. It gives up by a panic.
type reading struct {
	bytes []byte
	at    int
}

// giveUp ends reading by an error, if it is one.
func giveUp(e api.Errno) {
	if e != api.OK {
		panic(e)
	}
}

// number reads a number.
func number[T uint16 | uint32](r *reading) T {
	v, behind, e := octet.Take[T](r.bytes, r.at)
	giveUp(e)
	r.at = behind
	return v
}

// name reads a name.
func (r *reading) name() api.Name {
	n, behind, e := press.Take(r.bytes, r.at)
	giveUp(e)
	r.at = behind
	return n
}

// counts reads how many questions there are, and how many records of each part.
func (r *reading) counts() (questions uint16, records [3]uint16) {
	count := func() uint16 {
		n := number[uint16](r)
		if n > api.MaxParts {
			giveUp(api.ErrLong)
		}
		return n
	}
	questions = count()
	for i := range records {
		records[i] = count()
	}
	return questions, records
}

// question reads a question.
func (r *reading) question() api.Question {
	q := api.Question{Name: r.name()}
	q.Type = number[uint16](r)
	q.Class = number[uint16](r)
	return q
}

// record reads a record.
func (r *reading) record() api.Record {
	x := api.Record{Name: r.name()}
	x.Type = number[uint16](r)
	x.Class = number[uint16](r)
	x.TTL = number[uint32](r)
	size := int(number[uint16](r))
	if size > len(r.bytes)-r.at {
		giveUp(api.ErrShort)
	}
	d, e := rdata.Take(r.bytes, r.at, size, x.Type)
	giveUp(e)
	x.Data = d
	r.at += size
	return x
}
