package message

import (
	"hearsay/api"
	"hearsay/octet"
	"hearsay/press"
	"hearsay/rdata"
)

// reach is the first place to which no pointer leads: from there on no name is remembered.
const reach = 1 << 14

// writing is what was written of a message, and the table of its names. The message may be: check is asked first.
type writing struct {
	bytes []byte
	names *press.Table
}

// begin writes the head and the questions of a message.
func begin(m api.Message) *writing {
	w := &writing{names: press.New()}
	w.bytes = octet.Put(octet.Put(nil, m.ID), flagsOf(m))
	w.bytes = octet.Put(w.bytes, uint16(len(m.Questions)))
	for _, part := range parts(&m) {
		w.bytes = octet.Put(w.bytes, uint16(len(*part)))
	}
	for _, q := range m.Questions {
		w.name(q.Name)
		w.bytes = append(w.bytes, octet.Put(octet.Put(nil, q.Type), q.Class)...)
	}
	return w
}

// flagsOf are a message's flags.
func flagsOf(m api.Message) uint16 {
	var flags uint16
	add := func(bits int, v uint16) { flags = flags<<bits | v }
	addBit := func(is bool) {
		var v uint16
		if is {
			v = 1
		}
		add(1, v)
	}
	addBit(m.Reply)
	add(4, uint16(m.Opcode))
	addBit(m.AA)
	addBit(m.TC)
	addBit(m.RD)
	addBit(m.RA)
	add(3, uint16(m.Z))
	add(4, uint16(m.Rcode))
	return flags
}

// record writes a record.
func (w *writing) record(r api.Record) {
	w.name(r.Name)
	w.bytes = append(w.bytes, octet.Put(octet.Put(octet.Put(nil, r.Type), r.Class), r.TTL)...)
	size := len(w.bytes)
	w.bytes = append(w.bytes, 0, 0)
	w.behind(func(front []byte) ([]byte, api.Errno) {
		return rdata.Put(front, w.names, r.Type, r.Data)
	})
	// How many bytes the data have hangs on the pointers in them, so that it is told last.
	copy(w.bytes[size:], octet.Put(nil, uint16(len(w.bytes)-size-2)))
}

// name writes a name.
func (w *writing) name(n api.Name) {
	w.behind(func(front []byte) ([]byte, api.Errno) {
		return w.names.Put(front, n)
	})
}

// behind writes what put puts behind a front. The table asks of the front just how many bytes it has, and that no further than pointers reach; put copies all of it. So the front of a long message is cut there.
func (w *writing) behind(put func(front []byte) ([]byte, api.Errno)) {
	front := w.bytes[:min(len(w.bytes), reach)]
	out, _ := put(front)
	w.bytes = append(w.bytes, out[len(front):]...)
}
