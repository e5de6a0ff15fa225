package store

import (
	"bytes"

	"conductor/api"
	"conductor/chain"
)

// Check tells whether these may be written together.
func Check(l []api.Write) api.Errno {
	ahead := "" // as if there had been an empty key: none is above that but those that are not empty
	for _, w := range l {
		switch {
		case len(w.Key) > api.MaxKey, len(w.Data) > api.MaxData:
			return api.ErrLong
		case w.Key <= ahead, w.Gone && len(w.Data) > 0:
			return api.ErrArg
		}
		ahead = w.Key
	}
	return api.OK
}

// Commit writes all of l, or nothing; what nobody reads from low on is dropped first, if there is no room otherwise.
func (s *Store) Commit(l []api.Write, low uint64) (uint64, api.Errno) {
	if !s.made() {
		return 0, api.ErrMade
	}
	if err := Check(l); err != api.OK {
		return 0, err
	}
	if len(l) == 0 {
		return s.now, api.OK
	}
	if s.now == s.lim.Last {
		return 0, api.ErrFull
	}
	size := s.with(l)
	if !s.holds(size) {
		s.Collect(low)
		size = s.with(l) // made anew: a key that went is a new one again
	}
	if !s.holds(size) {
		return 0, api.ErrFull
	}
	s.size = size
	s.now++
	s.lay(l)
	return s.now, api.OK
}

// What a write brings.
const (
	nothing = iota // it is Gone, and its key has nothing
	newKey         // the first version of a key
	version        // a version behind those that its key has
)

// brings tells what a write brings.
func (s *Store) brings(w api.Write) int {
	if w.Gone && !s.has(w.Key) {
		return nothing
	}
	if _, is := s.chains[w.Key]; !is {
		return newKey
	}
	return version
}

// has tells whether a key has something now.
func (s *Store) has(key string) bool {
	_, is := s.Read(key, s.now)
	return is
}

// with gives the sizes as they would be with what comes of l.
func (s *Store) with(l []api.Write) api.Sizes {
	size := s.size
	for _, w := range l {
		switch s.brings(w) {
		case newKey:
			size.Keys++
			size.Bytes += len(w.Key)
			fallthrough // its first version counts like any other
		case version:
			size.Versions++
			size.Bytes += len(w.Data)
		}
	}
	return size
}

// holds tells whether the store has room for sizes.
func (s *Store) holds(size api.Sizes) bool {
	return size.Keys <= s.lim.Keys && size.Versions <= s.lim.Versions && size.Bytes <= s.lim.Bytes
}

// lay lays what comes of l behind the chains, as of now. It does so by itself, as chain.Put would copy the whole of a chain for each version that comes.
func (s *Store) lay(l []api.Write) {
	var fresh []string
	for _, w := range l {
		switch s.brings(w) {
		case newKey:
			fresh = append(fresh, w.Key)
			fallthrough // its first version is laid like any other
		case version:
			v := api.Version{At: s.now, Gone: w.Gone, Data: bytes.Clone(w.Data)}
			s.chains[w.Key] = append(s.chains[w.Key], v)
		}
	}
	s.keys = merged(s.keys, fresh)
}

// Collect drops what nobody reads from low on, and tells how many versions went.
func (s *Store) Collect(low uint64) int {
	if !s.made() {
		return 0
	}
	versions := s.size.Versions
	kept := s.keys[:0]
	for _, key := range s.keys {
		s.trim(key, low)
		if _, is := s.chains[key]; is {
			kept = append(kept, key)
		}
	}
	clear(s.keys[len(kept):])
	s.keys = kept
	return versions - s.size.Versions
}

// trim trims a key's chain by low.
func (s *Store) trim(key string, low uint64) {
	l := s.chains[key]
	if len(l) < 2 || l[1].At > low {
		return // the first one is not Gone, so all stay; who is full collects often, and most chains stay as they are
	}
	left := chain.Trim(l, low)
	s.size.Versions -= len(l) - len(left)
	s.size.Bytes -= chain.Size(l) - chain.Size(left)
	if len(left) > 0 {
		s.chains[key] = left
		return
	}
	delete(s.chains, key)
	s.size.Keys--
	s.size.Bytes -= len(key)
}
