package tree

import (
	"iter"
	"slices"
	"sort"

	"hearsay/api"
)

// node stands for a name: its first label, its value, if it is a key, and the nodes of one label more. At or under each node but the root there is a key.
type node[T any] struct {
	label string
	key   api.Name
	value T
	held  bool
	kids  []*node[T] // in the order of their labels, which is that of names
}

// place is where among the kids the one with a label stands, or would stand, and whether there is one.
func (d *node[T]) place(label string) (int, bool) {
	i := sort.Search(len(d.kids), func(i int) bool { return d.kids[i].label >= label })
	return i, i < len(d.kids) && d.kids[i].label == label
}

// down is the node that is reached by as many of the labels as there are nodes for, from the last one on, and by how many.
func (d *node[T]) down(labels []string) (*node[T], int) {
	for i, label := range slices.Backward(labels) {
		k, ok := d.place(label)
		if !ok {
			return d, len(labels) - 1 - i
		}
		d = d.kids[k]
	}
	return d, len(labels)
}

// at is the node of these labels, which is made if there is none.
func (d *node[T]) at(labels []string) *node[T] {
	d, depth := d.down(labels)
	for _, label := range slices.Backward(labels[:len(labels)-depth]) {
		k, _ := d.place(label)
		kid := &node[T]{label: label}
		d.kids = slices.Insert(d.kids, k, kid)
		d = kid
	}
	return d
}

// set makes the node a key with a value, and tells whether it was none.
func (d *node[T]) set(key api.Name, v T) bool {
	fresh := !d.held
	d.key, d.value, d.held = key, v, true
	return fresh
}

// unset makes the node no key, and tells whether it was one.
func (d *node[T]) unset() bool {
	held := d.held
	var none T
	d.key, d.value, d.held = "", none, false
	return held
}

// bare tells whether there is no key at or under the node.
func (d *node[T]) bare() bool { return !d.held && len(d.kids) == 0 }

// drop takes the key of these labels away, with the nodes that have none at or under them any more, and tells whether there was one.
func (d *node[T]) drop(labels []string) bool {
	if len(labels) == 0 {
		return d.unset()
	}
	last := len(labels) - 1
	k, ok := d.place(labels[last])
	if !ok || !d.kids[k].drop(labels[:last]) {
		return false
	}
	if d.kids[k].bare() {
		d.kids = slices.Delete(d.kids, k, k+1)
	}
	return true
}

// all tells the keys at and under the node with their values, in the order of names.
func (d *node[T]) all() iter.Seq2[api.Name, T] {
	return func(yield func(api.Name, T) bool) {
		if d.held && !yield(d.key, d.value) {
			return
		}
		for _, kid := range d.kids {
			for key, v := range kid.all() {
				if !yield(key, v) {
					return
				}
			}
		}
	}
}

// after is the first key under the node that is behind the one that these labels would have there.
func (d *node[T]) after(labels []string) (api.Name, bool) {
	from := 0
	if last := len(labels) - 1; last >= 0 {
		k, ok := d.place(labels[last])
		if ok {
			if key, found := d.kids[k].after(labels[:last]); found {
				return key, true
			}
			k++
		}
		from = k
	}
	for _, kid := range d.kids[from:] {
		for key := range kid.all() {
			return key, true
		}
	}
	return "", false
}
