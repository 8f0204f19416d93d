package spill

import (
	"strings"

	"winnow/api"
	"winnow/foot"
	"winnow/store"
)

// Open opens a spill of so many bytes. Whatever it can't go on with, deep inside, is panicked with as an error, which is answered here.
func Open(s *store.Store, name string, length int64) (r *Reader, err api.Errno) {
	defer func() {
		if why := recover(); why != nil {
			r, err = nil, why.(api.Errno)
		}
	}()
	f := file{store: s, name: name}
	end := f.readFoot(f.readTrail(f.measure(length)))
	f.name = strings.Clone(name) // it may be a piece of a long text, which would be kept with it
	return newReader(f, end), api.OK
}

// giveUp ends an opening, if there is an error.
func giveUp(err api.Errno) {
	if err != api.OK {
		panic(err)
	}
}

// must tells what a call has answered, or ends the opening.
func must[T any](answer T, err api.Errno) T {
	giveUp(err)
	return answer
}

// file is a blob, to be read.
type file struct {
	store *store.Store
	name  string
}

// read tells at most so many bytes from a place on.
func (f file) read(at, n int64) ([]byte, api.Errno) {
	return f.store.Read(f.name, at, int(n))
}

// measure holds the file's length against the told one, and tells it.
func (f file) measure(length int64) int64 {
	size := must(f.store.Size(f.name))
	if size != length {
		giveUp(api.ErrLength)
	}
	return size
}

// readTrail reads the trailer of a file of so many bytes.
func (f file) readTrail(size int64) api.Trail {
	if size < trailerSize {
		giveUp(api.ErrTrailer)
	}
	return must(foot.Trailer(must(f.read(size-trailerSize, trailerSize)), size))
}

// readFoot reads the pages, one by one.
func (f file) readFoot(t api.Trail) api.Foot {
	pages := must(foot.NewDecoder(t))
	end := t.Blocks + t.Pages
	for at := t.Blocks; at < end; at += pageSize {
		giveUp(pages.Page(must(f.read(at, min(pageSize, end-at)))))
	}
	return must(pages.Foot())
}
