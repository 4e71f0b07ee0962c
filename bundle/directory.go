package bundle

import (
	"threshing/api"
	"threshing/crc"
	"threshing/varint"
)

const (
	// mostFiles is how many files a bundle has at most.
	mostFiles = 1000
	// mostName is how many bytes the name of a file has at most.
	mostName = 100
	// fields is how many fields each record has: a name and the contents.
	fields = 2
	// sumSize is how many bytes the checksum behind sealed contents has.
	sumSize = 4
	// varintSize is how many bytes a varint has at most.
	varintSize = 10
)

// file is what the directory says of a file: the offset in the bundle at which
// its entry begins, its name, and its number of bytes. The offset at which its
// sealed contents start follows from the entries before it.
type file struct {
	at    int
	name  string
	size  int
	start int
}

// end returns the offset after the sealed contents of the file.
func (f file) end() int { return f.start + f.size + sumSize }

// directory is the files that a bundle should have, and the offset after them.
type directory struct {
	files []file
	end   int
}

// reader takes numbers and names off bytes, until one is not as it should be.
type reader struct {
	b      []byte
	at     int
	failed bool
}

// number returns the number whose varint is next, if it is at most most.
func (r *reader) number(most int) int {
	n, _, e := varint.Take(r.next(varintSize))
	if e != api.OK || n > uint64(most) {
		r.failed = true
		return 0
	}
	r.at += varint.Size(n)
	return int(n)
}

// name returns the name whose frame is next.
func (r *reader) name() string {
	s, _, e := varint.TakeFrame(r.next(varintSize+mostName), mostName)
	if e != api.OK {
		r.failed = true
		return ""
	}
	r.at += varint.Size(uint64(len(s))) + len(s)
	return s
}

// next returns at most most of the next bytes: what takes something off them
// copies those that remain.
func (r *reader) next(most int) []byte {
	return r.b[r.at:min(len(r.b), r.at+most)]
}

// directoryOf returns the directory of the bundle b, and whether it is valid.
func directoryOf(t []uint32, b []byte) (directory, bool) {
	r := reader{b: b}
	size := r.number(len(b))
	if r.failed || size > len(b)-r.at {
		return directory{}, false
	}
	end := r.at + size
	plain, e := crc.Open(t, b[r.at:end])
	if e != api.OK {
		return directory{}, false
	}
	return takeEntries(plain, r.at, end)
}

// takeEntries returns the directory that b encodes, and whether it encodes one.
// In the bundle, b begins at the offset at, and the contents of the first file
// begin at the offset start.
func takeEntries(b []byte, at, start int) (directory, bool) {
	r := reader{b: b}
	d := directory{end: start}
	before := ""
	for range r.number(mostFiles) {
		f := file{at: at + r.at, start: d.end}
		f.name = r.name()
		f.size = r.number(api.MaxField)
		if r.failed || !mayFollow(f.name, before) {
			return directory{}, false
		}
		d.files = append(d.files, f)
		d.end = f.end()
		before = f.name
	}
	if r.failed || r.at < len(b) {
		return directory{}, false
	}
	return d, true
}

// entries returns what is sealed as the directory of the bundle of the records.
func entries(l []api.Rec) []byte {
	b := varint.Put(nil, uint64(len(l)))
	for _, r := range l {
		b = append(b, varint.Frame(nil, r[0])...)
		b = append(b, varint.Put(nil, uint64(len(r[1])))...)
	}
	return b
}

// contents returns the contents of the files before the first one that b does
// not have, or has damaged.
func contents(t []uint32, b []byte, files []file) []string {
	var l []string
	for _, f := range files {
		if f.end() > len(b) {
			break
		}
		plain, e := crc.Open(t, b[f.start:f.end()])
		if e != api.OK {
			break
		}
		l = append(l, string(plain))
	}
	return l
}

// may reports whether the records can be written.
func may(l []api.Rec) bool {
	if len(l) > mostFiles {
		return false
	}
	before := ""
	for _, r := range l {
		if len(r) != fields || !mayFollow(r[0], before) || len(r[1]) > api.MaxField {
			return false
		}
		before = r[0]
	}
	return true
}

// mayFollow reports whether a file can have the name, if the one before it has
// the name before: the empty string, which no file has, if there is none.
func mayFollow(name, before string) bool {
	return name > before && len(name) <= mostName
}
