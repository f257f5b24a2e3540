package op

import (
	"testing"

	"skylark/api"
)

// Promise 8.1: the kinds that are counted up are those that are given.
func TestKinds(t *testing.T) {
	given := []int{api.OAdd, api.OReplace, api.OSet, api.ODelete, api.OGet, api.OMany}
	for i, k := range []kind{kindAdd, kindReplace, kindSet, kindDelete, kindGet, kindMany} {
		if int(k) != given[i] || int(k) != i+1 {
			t.Error(i, k)
		}
	}
}
