package cache

// ends are those of a row: its first and its last entry.
type ends struct{ first, last *entry }

// add makes an entry the last one of the row.
func (r *ends) add(e *entry) {
	e.ahead, e.behind = r.last, nil
	if r.last == nil {
		r.first = e
	} else {
		r.last.behind = e
	}
	r.last = e
}

// cut takes an entry out of the row. What stands beside it is told by it still, so that who goes along the row can go on.
func (r *ends) cut(e *entry) {
	if e.ahead == nil {
		r.first = e.behind
	} else {
		e.ahead.behind = e.behind
	}
	if e.behind == nil {
		r.last = e.ahead
	} else {
		e.behind.ahead = e.ahead
	}
}
