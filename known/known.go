// Package known: what there is of the things that numbers name, for the layers that ask it alike.
package known

import "chirograph/api"

// Mode tells whether digests have such a mode.
func Mode(mode int) bool {
	return mode == api.Hashed || mode == api.Open
}
