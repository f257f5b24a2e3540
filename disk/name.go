package disk

import "skylark/api"

// nameMayBe tells whether a file may have that name.
func nameMayBe(name string) bool {
	if len(name) < 1 || len(name) > api.MaxName {
		return false
	}
	for i := range len(name) {
		if !byteMayBe(name[i]) {
			return false
		}
	}
	return true
}

func byteMayBe(c byte) bool {
	switch {
	case 'a' <= c && c <= 'z':
		return true
	case '0' <= c && c <= '9':
		return true
	case c == '.':
		return true
	}
	return false
}
