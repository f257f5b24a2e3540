package disk

// file is a file's bytes, the first so many of which are safe.
type file struct {
	data []byte
	safe int
}

func (f file) grown(data string) file {
	return file{data: append(f.data, data...), safe: f.safe}
}

func (f file) cutTo(length int) file {
	return file{data: f.data[:length], safe: min(f.safe, length)}
}

func (f file) synced() file {
	return file{data: f.data, safe: len(f.data)}
}

// tail answers how many bytes are not safe.
func (f file) tail() int {
	return len(f.data) - f.safe
}

// torn is the file behind a crash: what is left then is safe, so that another crash leaves it.
func (f file) torn(draw int) file {
	kept := 0
	if draw > 0 {
		kept = draw % (f.tail() + 1)
	}
	return f.cutTo(f.safe + kept).synced()
}
