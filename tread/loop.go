package tread

import "remould/api"

// Loop returns the smallest one of the shortest loops of the set.
func Loop(q int, set []string) (string, api.Errno) {
	if !isSet(q, set) {
		return "", api.ErrArg
	}
	loop := newReader(q, set).loop()
	if loop == "" {
		return "", api.ErrNone
	}
	return loop, api.OK
}

// loop returns the smallest one of the shortest loops, or the empty word if there is none. The ends that a loop comes to repeat with it, so that it is the way from one of them back to it.
func (r reader) loop() string {
	best := ""
	for end := range r.next {
		distances := r.distances(end)
		length := len(r.next)
		for _, next := range r.steps(end) {
			length = min(length, distances[next])
		}
		if !r.isWay(length) {
			continue
		}
		word := r.smallest(end, length+1, func(end, left int) bool { return distances[end] == left })
		if best == "" || len(word) < len(best) || len(word) == len(best) && word < best {
			best = word
		}
	}
	return best
}

// Check returns OK if the word is a loop of the set.
func Check(q int, set []string, loop string) api.Errno {
	if !isSet(q, set) || len(loop) > api.MaxLoop || !hasLetters(q, loop) {
		return api.ErrArg
	}
	if loop == "" || newReader(q, set).read(0, repeated(loop)) == stop {
		return api.ErrAnswer
	}
	return api.OK
}

// repeated returns a word with so much of its repetitions that every pattern which occurs in any of them occurs here: it begins somewhere in the first one.
func repeated(word string) string {
	long := []byte(word)
	for i := range api.MaxPattern - 1 {
		long = append(long, long[i])
	}
	return string(long)
}
