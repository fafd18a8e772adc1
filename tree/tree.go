// Package tree: what a tree of files is (DOC.md's section 'Words', P8).
package tree

import (
	"bytes"

	"mirror/api"
)

// Check tells ErrTree of the file at which a list is no tree any more.
func Check(files []api.File) error {
	ahead := ""
	for i, file := range files {
		if !Follows(ahead, file.Name, len(file.Data)) || i >= api.MaxFiles {
			return &api.FileError{Name: file.Name, Kind: api.ErrTree}
		}
		ahead = file.Name
	}
	return nil
}

// Follows is whether a tree may have such a file right behind the one that is named ahead. Ahead of the first there is "", above which every name rises.
func Follows(ahead, name string, size int) bool {
	return isName(name) && name > ahead && size <= api.MaxData
}

// isName looks at bytes, since every sign that a name may have is one byte.
func isName(name string) bool {
	if len(name) < 1 || len(name) > api.MaxName {
		return false
	}
	for i := range len(name) {
		if !isSign(name[i]) {
			return false
		}
	}
	return true
}

// isSign is whether a name may have that byte.
func isSign(x byte) bool {
	return x >= 'a' && x <= 'z' || x >= '0' && x <= '9' || x == '.' || x == '/'
}

// Data is the bytes of the file of that name, still the list's own: none, if there is no such file.
func Data(files []api.File, name string) []byte {
	for _, file := range files {
		if file.Name == name {
			return file.Data
		}
	}
	return nil
}

// Clone is the same files in new memory.
func Clone(files []api.File) []api.File {
	var list []api.File
	for _, file := range files {
		list = append(list, api.File{Name: file.Name, Data: bytes.Clone(file.Data)})
	}
	return list
}
