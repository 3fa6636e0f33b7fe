package known

import (
	"testing"

	"chirograph/api"
	"chirograph/sample"
)

// TestModes: two of them, and no others.
func TestModes(t *testing.T) {
	for _, mode := range []int{api.Hashed, api.Open} {
		if !Mode(mode) {
			t.Errorf("there is no mode %d", mode)
		}
	}
	for _, mode := range sample.WrongModes() {
		if Mode(mode) {
			t.Errorf("there is a mode %d", mode)
		}
	}
}
