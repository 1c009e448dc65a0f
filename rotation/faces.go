package rotation

import "arbor/api"

// Faces gives the faces, as half edges.
func Faces(g api.Graph, r Rotation) [][]int {
	if !Right(g, r) {
		return nil
	}
	next := along(r, 2*len(g.Edges))
	var faces [][]int
	for h := range next {
		if next[h] == gone {
			continue
		}
		// All lesser ones stand in faces already, so h is the least of its own.
		faces = append(faces, takeFace(next, h))
	}
	return faces
}

// along gives for each half edge the one that comes behind it along its face.
func along(r Rotation, halves int) []int {
	next := make([]int, halves)
	for _, list := range r {
		for i, h := range list {
			next[other(h)] = list[(i+1)%len(list)]
		}
	}
	return next
}

// takeFace gives the face of h, from h on, and marks its half edges as gone.
func takeFace(next []int, h int) []int {
	var face []int
	for next[h] != gone {
		face = append(face, h)
		behind := next[h]
		next[h] = gone
		h = behind
	}
	return face
}

// other gives the other half edge of h's edge.
func other(h int) int { return h ^ 1 }
