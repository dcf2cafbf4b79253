// Package rights: sums of the rights that a capability may have, and their texts. See doc/01-rights.md.
package rights

import (
	"strings"

	"letterlock/api"
)

// letters stand in the order of the bits: the letter at i tells the bit 1 << i.
const letters = "rwpa"

// nothing tells that there are no rights, so that no text is ever empty.
const nothing = "-"

// Check tells whether r is a sum of rights.
func Check(r int) bool {
	return 0 <= r && r <= api.RAll
}

// Has tells whether all bits of want are among those of r.
func Has(r, want int) bool {
	return r&want == want
}

// Meet tells the bits that are in both.
func Meet(a, b int) int {
	return a & b
}

// Text tells the rights in r by their letters; bits that are no rights have none.
func Text(r int) string {
	s := ""
	for i := range len(letters) {
		if Has(r, 1<<i) {
			s += letters[i : i+1]
		}
	}
	if s == "" {
		return nothing
	}
	return s
}

// Parse tells the rights of which s is the Text; false: it is that of none.
func Parse(s string) (int, bool) {
	if s == nothing {
		return 0, true
	}
	r := 0
	for i := range len(s) {
		place := strings.IndexByte(letters, s[i])
		// A bit that is not above all those ahead of it is out of order, or stands twice.
		if place < 0 || 1<<place <= r {
			return 0, false
		}
		r |= 1 << place
	}
	return r, r != 0
}
