package span

import (
	"slices"
	"strings"

	"skylark/api"
)

// rule says in which order ends stand, and which texts are kept, by whether each of two lists has them.
type rule struct {
	order func(x, y end) int
	keeps func(inA, inB bool) bool
}

func unionRule() rule {
	return rule{order: byPlace, keeps: func(inA, inB bool) bool { return inA || inB }}
}

func meetRule() rule {
	return rule{order: byPlace, keeps: func(inA, inB bool) bool { return inA && inB }}
}

func minusRule() rule {
	return rule{order: byPlace, keeps: func(inA, inB bool) bool { return inA && !inB }}
}

// kept answers the normal list of the texts that the rule keeps of two lists, whose spans may be.
func (r rule) kept(a, b []api.Span) []api.Span {
	ends := addEnds(make([]end, 0, 2*(len(a)+len(b))), a, inFirst)
	ends = addEnds(ends, b, inSecond)
	slices.SortFunc(ends, r.order)
	var w writer
	var depths [2]int
	for i, x := range ends {
		depths[x.list] += x.step
		// Ends at one place count together: a span that begins where another stops leaves no gap.
		if i+1 < len(ends) && r.order(x, ends[i+1]) == 0 {
			continue
		}
		w.turn(r.keeps(depths[inFirst] > 0, depths[inSecond] > 0), x.place)
	}
	return w.finished()
}

// Which of the two lists an end is of.
const (
	inFirst = iota
	inSecond
)

// end is where a span begins or stops: from its place on, step more spans of its list have a text.
type end struct {
	place string
	list  int
	step  int
}

// addEnds adds the ends of a list's spans. A span without an end stops nowhere.
func addEnds(ends []end, l []api.Span, list int) []end {
	for _, s := range l {
		ends = append(ends, end{place: s.From, list: list, step: 1})
		if s.To != "" {
			ends = append(ends, end{place: s.To, list: list, step: -1})
		}
	}
	return ends
}

// byPlace does not tell ends at one place apart, for they count together.
func byPlace(x, y end) int {
	return strings.Compare(x.place, y.place)
}
