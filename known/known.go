// Package known: what there is of the things that numbers name, for the layers that ask it alike.
package known

import "chirograph/api"

// Mode tells whether digests have such a mode.
func Mode(mode int) bool {
	return mode == api.Hashed || mode == api.Open
}

// Place tells whether a list of n has such a place.
func Place(i, n int) bool {
	return i >= 0 && i < n
}
