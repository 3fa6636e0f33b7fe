package known

import (
	"testing"

	"chirograph/sample"
)

// TestModes: two of them, and no others.
func TestModes(t *testing.T) {
	for _, mode := range sample.Modes() {
		if !Mode(mode) {
			t.Errorf("there is no mode %d", mode)
		}
	}
	for _, mode := range sample.WrongModes() {
		if Mode(mode) {
			t.Errorf("there is a mode %d", mode)
		}
	}
}

// TestPlaces: from 0 on, below their number.
func TestPlaces(t *testing.T) {
	for n := range 70 {
		for i := range n {
			if !Place(i, n) {
				t.Errorf("%d have no place %d", n, i)
			}
		}
		for _, i := range sample.WrongPlaces(n) {
			if Place(i, n) {
				t.Errorf("%d have a place %d", n, i)
			}
		}
	}
}
