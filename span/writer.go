package span

import (
	"strings"

	"skylark/api"
)

// writer puts down a normal list, told from place to place, rising, whether texts are kept from there on.
type writer struct {
	list  []api.Span
	keeps bool
	from  string
}

// turn says whether texts are kept from a place on.
func (w *writer) turn(keeps bool, place string) {
	if keeps == w.keeps {
		return
	}
	if keeps {
		w.from = place
	} else {
		w.put(place)
	}
	w.keeps = keeps
}

// finished answers the list; what is still kept goes on without an end.
func (w *writer) finished() []api.Span {
	if w.keeps {
		w.put("")
	}
	return w.list
}

// put copies the texts: an answer shares no memory with what was handed in.
func (w *writer) put(to string) {
	w.list = append(w.list, api.Span{From: strings.Clone(w.from), To: strings.Clone(to)})
}
