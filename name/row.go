package name

import "hearsay/api"

// row gathers the labels of a name. It keeps no more than a name has room for, however many come.
type row struct {
	bytes []byte
	long  bool
}

// add puts a label behind those that are there.
func (r *row) add(label string) api.Errno {
	if len(label) == 0 || len(label) > api.MaxLabel {
		return api.ErrLabel
	}
	if len(r.bytes)+1+len(label)+1 > api.MaxName {
		r.long = true
		return api.OK
	}
	r.bytes = append(r.bytes, byte(len(label)))
	r.bytes = append(r.bytes, label...)
	return api.OK
}

// addText puts the labels that a text tells, piece by piece, behind those that are there, and answers whether the text is whole.
func (r *row) addText(text string) (bool, api.Errno) {
	for {
		piece, left, dotted := cut(text)
		label, e := Bytes(piece)
		if e == api.OK {
			e = r.add(label)
		}
		if e != api.OK || !dotted || left == "" {
			return dotted, e
		}
		text = left
	}
}

// addName puts the labels of a name behind those that are there.
func (r *row) addName(n api.Name) {
	for _, l := range Labels(n) {
		r.add(l)
	}
}

// name is the name with the labels that came.
func (r *row) name() (api.Name, api.Errno) {
	if r.long {
		return "", api.ErrLong
	}
	return api.Name(r.bytes) + api.Root, api.OK
}
