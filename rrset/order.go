package rrset

import (
	"cmp"
	"slices"
	"strings"

	"hearsay/api"
	"hearsay/name"
)

// CmpData is the order of data.
func CmpData(a, b api.Data) int {
	if sign := strings.Compare(a.Raw, b.Raw); sign != 0 {
		return sign
	}
	if sign := cmpName(a.Host, b.Host); sign != 0 {
		return sign
	}
	if sign := cmpName(a.Mail, b.Mail); sign != 0 {
		return sign
	}
	return slices.Compare(a.N[:], b.N[:])
}

// CmpKey is the order of keys.
func CmpKey(a, b api.Key) int {
	if sign := cmpName(a.Name, b.Name); sign != 0 {
		return sign
	}
	return cmp.Or(cmp.Compare(a.Type, b.Type), cmp.Compare(a.Class, b.Class))
}

// Cmp is the order of records.
func Cmp(a, b api.Record) int { return cmpFolded(Fold(a), Fold(b)) }

// cmpFolded is the order of records that are in small letters already.
func cmpFolded(a, b api.Record) int {
	if sign := CmpKey(keyOf(a), keyOf(b)); sign != 0 {
		return sign
	}
	if sign := CmpData(a.Data, b.Data); sign != 0 {
		return sign
	}
	return cmp.Compare(a.TTL, b.TTL)
}

// cmpName is the order of names, and of those that are alike the order of their bytes: 0 of one and the same alone.
func cmpName(a, b api.Name) int {
	if sign := name.Cmp(a, b); sign != 0 {
		return sign
	}
	return cmp.Compare(a, b)
}
