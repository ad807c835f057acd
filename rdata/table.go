package rdata

import (
	"strconv"

	"hearsay/api"
)

// part is one of the parts that data have, in the order of their bytes, which is the order of their words too.
type part uint8

const (
	none   part = iota // behind the last part
	four               // Raw: an address of four bytes
	eight              // Raw: an address of eight numbers, 16 bits each
	texts              // Raw: one or more short texts
	octets             // Raw: any bytes
	host               // Host
	bare               // Host, that is never told by a pointer
	mail               // Mail
	narrow             // the next one of N, 16 bits
	wide               // the next one of N, 32 bits
)

// mostParts is how many parts data have at most.
const mostParts = 7

// row is what a type has: its number, its text, and the parts of its data.
type row struct {
	number uint16
	text   string
	parts  [mostParts]part
}

// rows are the types of which something is known.
var rows = [...]row{
	{api.TypeA, "A", [mostParts]part{four}},
	{api.TypeNS, "NS", [mostParts]part{host}},
	{api.TypeCNAME, "CNAME", [mostParts]part{host}},
	{api.TypeSOA, "SOA", [mostParts]part{host, mail, wide, wide, wide, wide, wide}},
	{api.TypePTR, "PTR", [mostParts]part{host}},
	{api.TypeMX, "MX", [mostParts]part{narrow, host}},
	{api.TypeTXT, "TXT", [mostParts]part{texts}},
	{api.TypeAAAA, "AAAA", [mostParts]part{eight}},
	{api.TypeSRV, "SRV", [mostParts]part{narrow, narrow, narrow, bare}},
}

// partsOf are the parts of a type's data.
func partsOf(t uint16) [mostParts]part {
	for i := range rows {
		if rows[i].number == t {
			return rows[i].parts
		}
	}
	return [mostParts]part{octets}
}

// width is how many bits a number has at most that is this part.
func width(p part) int {
	if p == narrow {
		return 16
	}
	return 32
}

// number is what a text tells as digits, without a 0 ahead of others; false, if it tells none of at most so many bits.
func number(text string, bits int) (uint32, bool) {
	if len(text) > 1 && text[0] == '0' {
		return 0, false
	}
	v, err := strconv.ParseUint(text, 10, bits)
	if err != nil {
		return 0, false
	}
	return uint32(v), true
}
