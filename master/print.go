package master

import (
	"strconv"
	"strings"

	"hearsay/api"
	"hearsay/name"
	"hearsay/rdata"
)

// Print is a text that tells records.
func Print(origin api.Name, l []api.Record) (string, api.Errno) {
	if name.Check(origin) != api.OK {
		return "", api.ErrName
	}
	if len(l) > api.MaxRecords {
		return "", api.ErrLong
	}
	for _, x := range l {
		if e := check(x); e != api.OK {
			return "", e
		}
	}
	var text strings.Builder
	text.WriteString(line("$ORIGIN", small(origin)))
	for _, x := range l {
		text.WriteString(recordLine(x))
		if text.Len() > api.MaxText {
			return "", api.ErrLong
		}
	}
	return text.String(), api.OK
}

// check tells whether a record can be told.
func check(x api.Record) api.Errno {
	switch {
	case name.Check(x.Name) != api.OK:
		return api.ErrOwner
	case x.Class != api.ClassIN:
		return api.ErrClass
	case x.TTL > api.MaxTTL:
		return api.ErrTTL
	}
	return rdata.Check(x.Type, x.Data)
}

// recordLine is the line that tells a record. Show has no error of data that were checked.
func recordLine(x api.Record) string {
	data, _ := rdata.Show(x.Type, rdata.Fold(x.Type, x.Data))
	return line(small(x.Name), strconv.FormatUint(uint64(x.TTL), 10), "IN", rdata.TypeText(x.Type), data)
}

// line is a line of these words.
func line(words ...string) string { return strings.Join(words, " ") + "\n" }

// small is a name's text in small letters.
func small(n api.Name) string { return name.Text(name.Fold(n)) }
