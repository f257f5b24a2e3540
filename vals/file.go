package vals

import (
	"slices"
	"strconv"
	"strings"

	"skylark/api"
	"skylark/code"
)

// namePrefix stands ahead of a file's number in its name.
const namePrefix = "val."

// find gives up unless there is a file of that number.
func (v *Vals) find(number int) {
	refuseIf(!slices.Contains(v.Files(), number), api.ErrValue)
}

// read answers a file's bytes.
func (v *Vals) read(number int) string {
	v.find(number)
	bytes, refused := v.disk.Read(nameOf(number))
	pass(refused)
	return bytes
}

// tidy cuts off what stands behind a file's last whole frame, as a crash leaves it.
func (v *Vals) tidy(number int) {
	bytes := v.read(number)
	if _, end := placesIn(number, bytes); end < len(bytes) {
		pass(v.disk.Cut(nameOf(number), end))
	}
}

// end answers in which file the next value comes, and where its frame begins there.
func (v *Vals) end() (number, at int) {
	greatest := v.greatest
	if files := v.Files(); len(files) > 0 {
		last := files[len(files)-1]
		if size := len(v.read(last)); size < v.most {
			return last, size
		}
		greatest = max(greatest, last)
	}
	refuseIf(greatest >= api.MaxIndex, api.ErrLong)
	return greatest + 1, 0
}

// placesIn answers the places of a file's whole frames from its beginning on, and the place behind the last one.
func placesIn(number int, bytes string) (places []api.Place, end int) {
	for {
		value, next, fault := code.Unframe(bytes, end)
		if fault.Code != api.OK {
			return places, end
		}
		places = append(places, api.Place{File: number, At: end, Long: len(value)})
		end = next
	}
}

// numbersOf answers the numbers of the files of values among all names, rising. A disk has names by bytes, 10 ahead of 9.
func numbersOf(names []string) []int {
	var numbers []int
	for _, name := range names {
		if number, ok := numberOf(name); ok {
			numbers = append(numbers, number)
		}
	}
	slices.Sort(numbers)
	return numbers
}

// numberOf answers the number in a file's name; a file of another name has no values.
func numberOf(name string) (int, bool) {
	digits, ok := strings.CutPrefix(name, namePrefix)
	if !ok {
		return 0, false
	}
	number, err := strconv.Atoi(digits)
	if err != nil || number < 1 || number > api.MaxIndex || nameOf(number) != name {
		return 0, false
	}
	return number, true
}

func nameOf(number int) string {
	return namePrefix + strconv.Itoa(number)
}
