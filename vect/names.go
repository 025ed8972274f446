package vect

import (
	"strconv"
	"strings"

	"foolscap/api"
)

// stop parts the numbers of a name's text.
const stop = "."

// MayName tells whether a name may be.
func MayName(n api.Name) bool {
	return 1 <= n.Site && n.Site <= api.MaxSites && 1 <= n.Seq && n.Seq <= api.MaxNum
}

// NameLess tells whether a is less than b.
func NameLess(a, b api.Name) bool {
	if a.Site != b.Site {
		return a.Site < b.Site
	}
	return a.Seq < b.Seq
}

// NameText tells a name as a text.
func NameText(n api.Name) string {
	if !MayName(n) {
		return ""
	}
	return strconv.Itoa(n.Site) + stop + strconv.Itoa(n.Seq)
}

// ReadName tells the name of which s is the text.
func ReadName(s string) (api.Name, api.Errno) {
	ahead, behind, _ := strings.Cut(s, stop)
	// What is no number is told as 0, what is beyond an int as one at its end: no name has either.
	site, _ := strconv.Atoi(ahead)
	seq, _ := strconv.Atoi(behind)
	n := api.Name{Site: site, Seq: seq}
	// The library takes signs and noughts ahead, too, which the text has not.
	if !MayName(n) || NameText(n) != s {
		return api.Name{}, api.ErrForm
	}
	return n, api.OK
}
