// Package disk: a disk with a tree on it, whose power may fail at any step (P12).
package disk

import "mirror/api"

// Disk holds a tree and, beside it, what is to become the tree or was it. One without files is ready for use.
type Disk struct {
	tree   []api.File
	beside []api.File
}

// New makes one with that tree, whose memory it keeps.
func New(files []api.File) Disk { return Disk{tree: files} }

// Tree is the tree, still the disk's own.
func (d *Disk) Tree() []api.File { return d.tree }

// Replace makes these files, whose memory the disk keeps, the tree. It panics at the step whose number is crash. What has been written and does not last yet is lost then, so it is held in this call alone.
func (d *Disk) Replace(files []api.File, crash int) {
	p := power{fails: crash}
	var written []api.File
	for _, file := range files {
		p.step()
		written = append(written, file)
	}
	p.step()
	d.beside = written
	p.step()
	d.tree, d.beside = d.beside, d.tree
	p.step()
	d.beside = nil
}

// Clean takes away what is not the tree. It panics at its one step, if crash is its number.
func (d *Disk) Clean(crash int) {
	p := power{fails: crash}
	p.step()
	d.beside = nil
}

// power counts the steps of one call, from 1 on.
type power struct {
	at    int
	fails int // the number of the step at which it fails
}

// step begins the next one, ahead of what it does: a failure leaves that undone.
func (p *power) step() {
	p.at++
	if p.at == p.fails {
		panic(api.ErrCrash)
	}
}
