package vals

import "skylark/api"

// pass gives up a call with what another one refused.
func pass(e api.Errno) {
	if e != api.OK {
		panic(e)
	}
}

// refuseIf gives up a call with an error if something is wrong.
func refuseIf(wrong bool, e api.Errno) {
	if wrong {
		panic(e)
	}
}

// refusalIn answers the error that a call gave up with, by what its face recovered. A panic of another kind is none of ours, and goes on, lest a fault be taken for an answer.
func refusalIn(recovered any) api.Errno {
	switch r := recovered.(type) {
	case nil:
		return api.OK
	case api.Errno:
		return r
	default:
		panic(r)
	}
}
