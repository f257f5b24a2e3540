package op

// kind is what an operation does; its number is the one that requests carry (api.OAdd to api.OMany).
type kind int

const (
	kindAdd kind = iota + 1
	kindReplace
	kindSet
	kindDelete
	kindGet
	kindMany
)

// writes tells whether operations of this kind change rows.
func (k kind) writes() bool {
	switch k {
	case kindAdd, kindReplace, kindSet, kindDelete:
		return true
	}
	return false
}
