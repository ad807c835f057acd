package rdata

import (
	"strconv"
	"strings"

	"hearsay/api"
	"hearsay/name"
	"hearsay/octet"
)

// anyData is the word ahead of any data as words.
const anyData = `\#`

// Read is the data that words tell.
func Read(t uint16, words []api.Word, origin api.Name) (d api.Data, e api.Errno) {
	if name.Check(origin) != api.OK {
		return api.Data{}, api.ErrName
	}
	defer func() {
		if thrown := recover(); thrown != nil {
			d, e = api.Data{}, thrown.(api.Errno)
		}
	}()
	r := reader{words: words, origin: origin}
	if len(words) > 0 && words[0].Text == anyData && !words[0].Quoted {
		return r.any(t), api.OK
	}
	return r.known(t), api.OK
}

// reader reads words from the front, and gives up by a panic.
type reader struct {
	words   []api.Word
	origin  api.Name
	data    api.Data
	numbers int
}

// giveUp ends reading where words tell no data.
func (r *reader) giveUp() { panic(api.ErrWords) }

// pass reads nothing.
func (r *reader) pass() {}

// known reads data whose type is in the table, part by part.
func (r *reader) known(t uint16) api.Data {
	calls := [...]func(){
		none:   r.pass,
		four:   r.four,
		eight:  r.eight,
		texts:  r.texts,
		octets: r.giveUp,
		host:   r.host,
		bare:   r.host,
		mail:   r.mail,
		narrow: r.narrow,
		wide:   r.wide,
	}
	for _, p := range partsOf(t) {
		calls[p]()
	}
	if len(r.words) > 0 {
		r.giveUp()
	}
	return r.data
}

// any reads any data as words.
func (r *reader) any(t uint16) api.Data {
	r.next()
	size := int(r.number(16))
	var digits []byte
	for len(r.words) > 0 && len(digits) <= 2*size {
		digits = append(digits, r.plain()...)
	}
	if len(digits) != 2*size {
		r.giveUp()
	}
	b := make([]byte, size)
	for i := range b {
		b[i] = byte(r.hex(string(digits[2*i : 2*i+2])))
	}
	d, e := Take(b, 0, size, t)
	if e != api.OK {
		r.giveUp()
	}
	return d
}

// next is the next word.
func (r *reader) next() api.Word {
	if len(r.words) == 0 {
		r.giveUp()
	}
	w := r.words[0]
	r.words = r.words[1:]
	return w
}

// plain is the text of the next word, which is not quoted.
func (r *reader) plain() string {
	w := r.next()
	if w.Quoted {
		r.giveUp()
	}
	return w.Text
}

// number is what the next word tells as digits.
func (r *reader) number(bits int) uint32 { return r.digits(r.plain(), bits) }

// digits is a number that is told by digits.
func (r *reader) digits(text string, bits int) uint32 {
	v, ok := number(text, bits)
	if !ok {
		r.giveUp()
	}
	return v
}

// hex is a number that is told by one to four digits to the base 16.
func (r *reader) hex(text string) uint16 {
	v, err := strconv.ParseUint(text, 16, 16)
	if err != nil || len(text) > 4 {
		r.giveUp()
	}
	return uint16(v)
}

// narrow reads a number of 16 bits.
func (r *reader) narrow() { r.keep(r.number(width(narrow))) }

// wide reads a number of 32 bits.
func (r *reader) wide() { r.keep(r.number(width(wide))) }

// keep puts a number behind those that were read.
func (r *reader) keep(v uint32) {
	r.data.N[r.numbers] = v
	r.numbers++
}

// host reads the name Host.
func (r *reader) host() { r.data.Host = r.name() }

// mail reads the name Mail.
func (r *reader) mail() { r.data.Mail = r.name() }

// name is what the next word tells as a name.
func (r *reader) name() api.Name {
	text := r.plain()
	if text == "@" {
		return r.origin
	}
	n, e := name.Parse(text, r.origin)
	if e != api.OK {
		r.giveUp()
	}
	return n
}

// four reads an address of four bytes.
func (r *reader) four() {
	pieces := strings.Split(r.plain(), ".")
	if len(pieces) != 4 {
		r.giveUp()
	}
	var raw [4]byte
	for i, piece := range pieces {
		raw[i] = byte(r.digits(piece, 8))
	}
	r.data.Raw = string(raw[:])
}

// eight reads an address of eight groups, some of which may be told by ::.
func (r *reader) eight() {
	front, back, cut := strings.Cut(r.plain(), "::")
	head, tail := r.groups(front), r.groups(back)
	var all [8]uint16
	if told := len(head) + len(tail); cut && told >= len(all) || !cut && told != len(all) {
		r.giveUp()
	}
	copy(all[:], head)
	copy(all[len(all)-len(tail):], tail)
	var raw []byte
	for _, group := range all {
		raw = append(raw, octet.Put(nil, group)...)
	}
	r.data.Raw = string(raw)
}

// groups are numbers to the base 16 with : between; none of a text without bytes.
func (r *reader) groups(text string) []uint16 {
	if text == "" {
		return nil
	}
	var l []uint16
	for _, piece := range strings.Split(text, ":") {
		l = append(l, r.hex(piece))
	}
	return l
}

// texts reads all words that are left, one at least, as short texts.
func (r *reader) texts() {
	var raw []byte
	for {
		text, e := name.Bytes(r.next().Text)
		if e != api.OK {
			r.giveUp()
		}
		short, e := octet.PutText(nil, text)
		if e != api.OK || len(raw)+len(short) > api.MaxData {
			r.giveUp()
		}
		raw = append(raw, short...)
		if len(r.words) == 0 {
			break
		}
	}
	r.data.Raw = string(raw)
}
