package sweep

import "skylark/api"

// set is numbers of files, each once.
type set map[int]struct{}

func setOf(files []int) set {
	s := set{}
	for _, file := range files {
		s[file] = struct{}{}
	}
	return s
}

func (s set) has(file int) bool {
	_, there := s[file]
	return there
}

// sizesMayBe tells whether sizes are of files whose numbers rise, from 1 on, and none of them is greater than a disk.
func sizesMayBe(sizes []api.Size) bool {
	before := 0
	for _, s := range sizes {
		if s.File <= before || s.Bytes < 0 || s.Bytes > api.MaxBytes {
			return false
		}
		before = s.File
	}
	return true
}

// tooMany tells whether a list has more items than one may have.
func tooMany[T any](list []T) bool {
	return len(list) > api.MaxItems
}
