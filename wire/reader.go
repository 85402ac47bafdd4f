package wire

import "compact/api"

// Reader reads the forms: it has a cursor, and knows in which order their parts stand.
type Reader struct{ cursor }

// Read reads a text that is told in a form, and has nothing behind it: the form's value, or the first error.
func Read[T any](text string, form func(*Reader) T) (value T, fault api.Errno) {
	defer func() {
		left := recover()
		if left == nil {
			return
		}
		err, ours := left.(api.Errno)
		if !ours { // a fault of the program, which must not pass for one of the text
			panic(left)
		}
		fault = err
	}()
	r := &Reader{cursor{text: text}}
	read := form(r) // the result gets it only when all is well, so that beside an error it is zero
	r.end()
	return read, api.OK
}

// Transaction reads a transaction: its bytes.
func (r *Reader) Transaction() string {
	start := r.at
	r.take(4)
	r.several(1, api.MaxIn, (*Reader).input)
	r.several(1, api.MaxOut, (*Reader).output)
	r.take(4)
	return r.text[start:r.at]
}

func (r *Reader) input() {
	r.take(36)
	r.script()
	r.take(4)
}

func (r *Reader) output() {
	r.take(8)
	r.script()
}

func (r *Reader) script() { r.take(int(r.size(0, api.MaxScript))) }

// several reads a size from least to most, and so many parts.
func (r *Reader) several(least uint64, most uint64, part func(*Reader)) {
	for range r.size(least, most) {
		part(r)
	}
}
